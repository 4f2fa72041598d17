/- Contract of Has. -/
import Derived.Test.YtgabfjcobcndaaaHSets
namespace Go.Proofs.Ytgabfjcobcndaaa
open Go.RowKit

namespace M
/-- Is a number a minute of a list? -/
def has (l : List Sp) (m : Int) : Bool := decide (0 ≤ m) && (decide (m < 1440) && mn l m.toNat)
theorem has_nat {l : List Sp} {k : Nat} (h : k < 1440) : has l (k : Int) = mn l k := by
  have h1 : decide (0 ≤ (k : Int)) = true := by simp
  have h2 : decide ((k : Int) < 1440) = true := by simp; omega
  rw [has, h1, h2]; simp
theorem has_lo {l : List Sp} {m : Int} (h : m < 0) : has l m = false := by
  have h1 : decide (0 ≤ m) = false := by simp; omega
  rw [has, h1]; rfl
theorem has_hi {l : List Sp} {m : Int} (h : 1440 ≤ m) : has l m = false := by
  have h1 : decide (m < 1440) = false := by simp; omega
  rw [has, h1]; simp
theorem mn_take_succ {l : List Sp} {j : Nat} (h : j < l.length) (k : Nat) : mn (l.take (j + 1)) k = (mn (l.take j) k || (decide (l[j].1 ≤ (k : Int)) && decide ((k : Int) < l[j].2))) := by
  rw [List.take_succ_eq_append_getElem h, mn_append]; simp [mn]
theorem mn_of_take {l : List Sp} {j k : Nat} (h : mn (l.take j) k = true) : mn l k = true := by
  have : mn (l.take j ++ l.drop j) k = (mn (l.take j) k || mn (l.drop j) k) := mn_append _ _ _
  rw [List.take_append_drop] at this
  rw [this, h]; rfl
end M

set_option maxHeartbeats 1000000 in
theorem has1_any (p q m : Int) (B : Nat) (W : World) (hB : W.cell? ⟨B, 0, none⟩ = some (.int .i64 m)) :
    Calls Try.prog 35 #[.agg #[.int .i64 p, .int .i64 q], .pointer (some ⟨B, 0, none⟩)] W fun e W' => e = .returned (.bool (decide (p ≤ m) && decide (m < q))) ∧ Below W.heap.size W W' := by
  have hb : Below W.heap.size W (W.alloc (.cells #[.int .i64 p, .int .i64 q] 32)) := (Below.refl _ _).alloc (Nat.le_refl _) _
  have hc := (hb.cell (p := ⟨B, 0, none⟩) (cell_block hB)).trans hB
  have HB := Lib.hid hb
  clear hb
  by_cases h1 : p ≤ m
  · have d1 : decide (p ≤ m) = true := by simpa using h1
    by_cases h2 : m < q
    · have d2 : decide (m < q) = true := by simpa using h2
      clear h1 h2
      rw [d1, d2, Bool.true_and]
      go_enter Try.func35, Try.ntmps35
      go_wp2
      go_ret
      exact ⟨rfl, HB.out⟩
    · have d2 : decide (m < q) = false := by simpa using h2
      clear h1 h2
      rw [d1, d2, Bool.and_false]
      go_enter Try.func35, Try.ntmps35
      go_wp2
      go_ret
      exact ⟨rfl, HB.out⟩
  · have d1 : decide (p ≤ m) = false := by simpa using h1
    clear h1
    rw [d1, Bool.false_and]
    go_enter Try.func35, Try.ntmps35
    go_wp2
    go_ret
    exact ⟨rfl, HB.out⟩

set_option maxHeartbeats 1000000 in
theorem indexFunc_any {l : List M.Sp} {v : Value} {w : World} (h : SL w v l) (m B : Nat) (hB : w.cell? ⟨B, 0, none⟩ = some (.int .i64 (m : Int))) :
    Calls Try.prog 39 #[v, .func (.func 35) #[] #[.pointer (some ⟨B, 0, none⟩)]] w fun e w' => (∃ z : Int, e = .returned (.int .i64 z) ∧ decide (0 ≤ z) = M.mn l m) ∧ Below w.heap.size w w' := by
  obtain ⟨a, ca, rfl, hsa, hla⟩ := h
  have HA := Lib.hid hsa
  have HBC := Lib.hid hB
  clear hsa hB
  go_enter Try.func39, Try.ntmps39
  go_wp2
  go_loopw [8] (fun ii wr => ∃ j : Nat, j ≤ l.length ∧ ii = .int .i64 j ∧ Hid (M.mn (l.take j) m = false) ∧ Hid (Below w.heap.size w wr))
    (fun ii _ => l.length - (intOf ii).toNat)
  case atStart => exact ⟨0, Nat.zero_le _, rfl, Lib.hid (by simp [M.mn]), Lib.hid (Below.refl _ _)⟩
  case round =>
    obtain ⟨j, hj, rfl, HP, HW⟩ := hrel
    by_cases hlt : j < l.length
    · obtain ⟨b1, o1, rfl, x0, x1⟩ := (HA.out.kept HW.out).at j hlt
      have HS := Lib.hid (M.mn_take_succ hlt m)
      have HT := Lib.hid (@M.mn_of_take l (j + 1) m)
      obtain ⟨p, hp⟩ : ∃ p, l[j].1 = p := ⟨_, rfl⟩
      obtain ⟨q, hq⟩ : ∃ p, l[j].2 = p := ⟨_, rfl⟩
      rw [hp] at x0 HS; rw [hq] at x1 HS
      clear hp hq
      have HC := Lib.hid (has1_any p q (m : Int) B wr ((HW.out.cell (p := ⟨B, 0, none⟩) (cell_block HBC.out)).trans HBC.out))
      cases hz : (decide (p ≤ (m : Int)) && decide ((m : Int) < q)) with
      | true =>
        rw [hz] at HC HS
        clear hz
        go_wp2_with (go_at_call 35; (with_reducible refine HC.out.mono ?_); rintro e w1 ⟨rfl, hb1⟩)
        go_ret
        refine ⟨⟨_, rfl, ?_⟩, HW.out.trans (hb1.mono HW.out.size)⟩
        rw [HT.out (by rw [HS.out]; simp)]
        simp
      | false =>
        rw [hz] at HC HS
        clear hz
        go_wp2_with (go_at_call 35; (with_reducible refine HC.out.mono ?_); rintro e w1 ⟨rfl, hb1⟩; have HB2 := Lib.hid (HW.out.trans (hb1.mono HW.out.size)); clear hb1)
        go_roundw
        case rel => exact ⟨j + 1, by omega, by go_num, Lib.hid (by rw [HS.out, HP.out]; rfl), HB2⟩
        case measure => simp [intOf]; omega
    · have hjl : j = l.length := by omega
      go_wp2
      go_ret
      refine ⟨⟨_, rfl, ?_⟩, HW.out⟩
      have := HP.out
      rw [hjl, List.take_length] at this
      rw [this]; rfl

set_option maxHeartbeats 1000000 in
theorem contains_any {l : List M.Sp} {v : Value} {w : World} (h : SL w v l) (m B : Nat) (hB : w.cell? ⟨B, 0, none⟩ = some (.int .i64 (m : Int))) :
    Calls Try.prog 34 #[v, .func (.func 35) #[] #[.pointer (some ⟨B, 0, none⟩)]] w fun e w' => e = .returned (.bool (M.mn l m)) ∧ Below w.heap.size w w' := by
  have HI := Lib.hid (indexFunc_any h m B hB)
  clear h hB
  go_enter Try.func34, Try.ntmps34
  go_wp2_with (go_at_call 39; (with_reducible refine HI.out.mono ?_); rintro e w1 ⟨⟨z, rfl, hz⟩, hb1⟩)
  go_ret
  exact ⟨by rw [← hz]; rfl, hb1⟩

set_option maxHeartbeats 1000000 in
/-- 'hours.Has'. -/
theorem has_any {l : List M.Sp} {v : Value} {w : World} (h : SL w v l) (m : Int) :
    Calls Try.prog 22 #[v, .int .i64 m] w fun e w' => e = .returned (.bool (M.has l m)) ∧ Below w.heap.size w w' := by
  have hb : Below w.heap.size w (w.alloc (.cells #[.int .i64 m] 3)) := (Below.refl _ _).alloc (Nat.le_refl _) _
  have HB := Lib.hid hb
  clear hb
  by_cases h1 : m < 0
  · have HH := Lib.hid (M.has_lo (l := l) h1)
    have d1 : decide (m < 0) = true := by simpa using h1
    clear h1
    go_enter Try.func22, Try.ntmps22
    go_wp2
    go_ret
    exact ⟨by rw [HH.out]; rfl, HB.out⟩
  · have d1 : decide (m < 0) = false := by simpa using h1
    by_cases h2 : 1440 ≤ m
    · have HH := Lib.hid (M.has_hi (l := l) h2)
      have d2 : decide (1440 ≤ m) = true := by simpa using h2
      have d3 : decide (m ≥ 1440) = true := by simpa using h2
      clear h1 h2
      go_enter Try.func22, Try.ntmps22
      go_wp2
      go_ret
      exact ⟨by rw [HH.out]; rfl, HB.out⟩
    · have d2 : decide (1440 ≤ m) = false := by simpa using h2
      have d3 : decide (m ≥ 1440) = false := by simpa using h2
      obtain ⟨k, rfl⟩ : ∃ k : Nat, m = (k : Int) := ⟨m.toNat, by omega⟩
      have hk : k < 1440 := by omega
      have hc : (w.alloc (.cells #[.int .i64 (k : Int)] 3)).cell? ⟨w.heap.size, 0, none⟩ = some (.int .i64 (k : Int)) := by
        rw [cell_of_row _ _ _ _ _ _ (heap_alloc_new w _)]; rfl
      have HC : Hid (Calls Try.prog 34 #[v, .func (.func 35) #[] #[.pointer (some ⟨w.heap.size, 0, none⟩)]] (w.alloc (.cells #[.int .i64 (k : Int)] 3)) fun e w' => e = .returned (.bool (M.has l k)) ∧ Below w.heap.size w w') := Lib.hid (by
        rw [M.has_nat hk]
        refine (contains_any (h.kept HB.out) k w.heap.size hc).mono ?_
        rintro e w1 ⟨rfl, hb1⟩
        exact ⟨rfl, HB.out.trans (hb1.mono HB.out.size)⟩)
      generalize M.has l (k : Int) = b at *
      clear h hc h1 h2
      go_enter Try.func22, Try.ntmps22
      go_wp2_with (go_at_call 34; (with_reducible refine HC.out.mono ?_); rintro e w1 ⟨rfl, hb1⟩)
      go_ret
      exact ⟨rfl, hb1⟩

end Go.Proofs.Ytgabfjcobcndaaa
