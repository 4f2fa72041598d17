/- The walk of HoursSpec. -/
import Derived.Test.YtgabfjcobcndaaaHRSets
namespace Go.Proofs.Ytgabfjcobcndaaa
open Go.RowKit

set_option maxRecDepth 100000 in
set_option maxHeartbeats 4000000 in
theorem spec_walk {la : List M.Sp} {va : Value} {w : World} (sa : SL w va la) :
    Calls Try.prog 3 #[va] w fun e w' => e = .returned (.bool true) ∧ Below w.heap.size w w' := by
  have HS := Lib.hid (sane_any w)
  by_cases fa : la.length ≤ 40
  case neg =>
    go_enter Try.func3, Try.ntmps3
    go_wp2_with fail
    refine HS.out.mono ?_
    rintro e w0 ⟨rfl, hb⟩
    replace sa := sa.kept hb
    have HB := Lib.hid hb
    clear hb HS
    go_wp2_with (first
        | (go_at_call 10; (with_reducible refine (few_yes (by assumption) fa).mono ?_); rintro e w1 ⟨rfl, rfl⟩)
        | (go_at_call 10; (with_reducible refine (few_no (by assumption) fa).mono ?_); rintro e w1 ⟨rfl, rfl⟩))
    go_ret
    exact ⟨rfl, HB.out⟩
  go_enter Try.func3, Try.ntmps3
  go_wp2_with fail
  refine HS.out.mono ?_
  rintro e w0 ⟨rfl, hb⟩
  replace sa := sa.kept hb
  have HB := Lib.hid hb
  clear hb HS
  go_wp2_with (first
      | (go_at_call 10; (with_reducible refine (few_yes (by assumption) fa).mono ?_); rintro e w1 ⟨rfl, rfl⟩)
      | (go_at_call 10; (with_reducible refine (few_no (by assumption) fa).mono ?_); rintro e w1 ⟨rfl, rfl⟩)
      | (go_at_call 17; (with_reducible refine (runion_any (by assumption) (by assumption)).mono ?_); rintro e w1 ⟨v1, rfl, hs, hb⟩; replace sa := sa.kept hb; have HB := Lib.hid (HB.out.trans (hb.mono HB.out.size)); (try clear x4); (try (have x4 := x3.kept hb)); (try clear x3); (try (have x3 := x2.kept hb)); (try clear x2); (try (have x2 := x1.kept hb)); (try clear x1); have x1 := hs; clear hb hs)
      | (go_at_call 19; (with_reducible refine (rmeet_any (by assumption) (by assumption)).mono ?_); rintro e w1 ⟨v1, rfl, hs, hb⟩; replace sa := sa.kept hb; have HB := Lib.hid (HB.out.trans (hb.mono HB.out.size)); (try clear x4); (try (have x4 := x3.kept hb)); (try clear x3); (try (have x3 := x2.kept hb)); (try clear x2); (try (have x2 := x1.kept hb)); (try clear x1); have x1 := hs; clear hb hs)
      | (go_at_call 21; (with_reducible refine (rminus_any (by assumption) (by assumption)).mono ?_); rintro e w1 ⟨v1, rfl, hs, hb⟩; replace sa := sa.kept hb; have HB := Lib.hid (HB.out.trans (hb.mono HB.out.size)); (try clear x4); (try (have x4 := x3.kept hb)); (try clear x3); (try (have x3 := x2.kept hb)); (try clear x2); (try (have x2 := x1.kept hb)); (try clear x1); have x1 := hs; clear hb hs)
      | (go_at_call 15; (with_reducible refine (rnormal_any (by assumption)).mono ?_); rintro e w1 ⟨v1, rfl, hs, hb⟩; replace sa := sa.kept hb; have HB := Lib.hid (HB.out.trans (hb.mono HB.out.size)); (try clear x4); (try (have x4 := x3.kept hb)); (try clear x3); (try (have x3 := x2.kept hb)); (try clear x2); (try (have x2 := x1.kept hb)); (try clear x1); have x1 := hs; clear hb hs)
      | (go_at_call 11; (with_reducible refine (check_any (by assumption)).mono ?_); rintro e w1 ⟨rfl, hb⟩; replace sa := sa.kept hb; have HB := Lib.hid (HB.out.trans (hb.mono HB.out.size)); (try clear x4); (try clear x3); (try clear x2); (try clear x1); clear hb)
      | (go_at_call 12; (with_reducible refine (rcheck_any (by assumption)).mono ?_); rintro e w1 ⟨rfl, hb⟩; replace sa := sa.kept hb; have HB := Lib.hid (HB.out.trans (hb.mono HB.out.size)); (try clear x4); (try clear x3); (try clear x2); (try clear x1); clear hb)
      | (go_at_call 20; (with_reducible refine (d_none (by assumption)).mono ?_); rintro e w1 ⟨v1, rfl, ⟨a1, c1, rfl, hs, _⟩, hb⟩; replace sa := sa.kept hb; have HB := Lib.hid (HB.out.trans (hb.mono HB.out.size)); (try clear x4); (try clear x3); (try clear x2); (try clear x1); clear hb hs)
      | (go_at_call 16; (with_reducible refine (u_any (by assumption) (by assumption)).mono ?_); rintro e w1 ⟨v1, rfl, hs, hb⟩; replace sa := sa.kept hb; have HB := Lib.hid (HB.out.trans (hb.mono HB.out.size)); (try clear x4); (try (have x4 := x3.kept hb)); (try clear x3); (try (have x3 := x2.kept hb)); (try clear x2); (try (have x2 := x1.kept hb)); (try clear x1); have x1 := hs; clear hb hs)
      | (go_at_call 18; (with_reducible refine (i_any (by assumption) (by assumption)).mono ?_); rintro e w1 ⟨v1, rfl, hs, hb⟩; replace sa := sa.kept hb; have HB := Lib.hid (HB.out.trans (hb.mono HB.out.size)); (try clear x4); (try (have x4 := x3.kept hb)); (try clear x3); (try (have x3 := x2.kept hb)); (try clear x2); (try (have x2 := x1.kept hb)); (try clear x1); have x1 := hs; clear hb hs)
      | (go_at_call 20; (with_reducible refine (d_any (by assumption) (by assumption)).mono ?_); rintro e w1 ⟨v1, rfl, hs, hb⟩; replace sa := sa.kept hb; have HB := Lib.hid (HB.out.trans (hb.mono HB.out.size)); (try clear x4); (try (have x4 := x3.kept hb)); (try clear x3); (try (have x3 := x2.kept hb)); (try clear x2); (try (have x2 := x1.kept hb)); (try clear x1); have x1 := hs; clear hb hs)
      | (go_at_call 14; (with_reducible refine (nm_any (by assumption)).mono ?_); rintro e w1 ⟨v1, rfl, hs, hb⟩; replace sa := sa.kept hb; have HB := Lib.hid (HB.out.trans (hb.mono HB.out.size)); (try clear x4); (try (have x4 := x3.kept hb)); (try clear x3); (try (have x3 := x2.kept hb)); (try clear x2); (try (have x2 := x1.kept hb)); (try clear x1); have x1 := hs; clear hb hs)
      | (go_at_call 13; (with_reducible refine (same_yes (by assumption) (by assumption) (rfl)).mono ?_); rintro e w1 ⟨rfl, hb⟩; replace sa := sa.kept hb; have HB := Lib.hid (HB.out.trans (hb.mono HB.out.size)); (try clear x4); (try clear x3); (try clear x2); (try clear x1); clear hb))
  go_ret
  exact ⟨rfl, HB.out⟩

end Go.Proofs.Ytgabfjcobcndaaa
