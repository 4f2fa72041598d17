/- Contract of the laws' helper 'spans'. -/
import Derived.Test.YtgabfjcobcndaaaHCovers
import Derived.Deep.RegionHeld3
namespace Go.Proofs.Ytgabfjcobcndaaa
open Go.RowKit

theorem step_push {ops : Array Oper} {o : Oper} {a : Act} {K : Act → World → Prop} {Q : Exit → Act → World → Prop} {E : Prop} {w : World} (hgd : o.guard = none) (s x : Operand)
    (ho : o.op = .call { callee := .builtin .append, args := #[s, x], argTypes := #[22, 22] })
    (base : Nat) (v : Value) (n : Nat) (l : List M.Sp) (hs : a.eval s = v) (hown : w.ownsRow base 32 2 v n (cel l)) (B c : Nat) (p q : Int)
    (hx : a.eval x = .slice (some ⟨B, 0, none⟩) 1 c) (hB : SpBox w B (p, q)) (hn : n ≤ 1099511627776) (hb : base ≤ w.heap.size)
    (h : ∀ A' c' w', w'.ownsRow base 32 2 (.slice A' (n + 1) c') (n + 1) (cel (l ++ [(p, q)])) → Keeps base w w' → K (a.put o.dst (.slice A' (n + 1) c')) w') :
    if Region.wanted o (yielded ops a.tmps) = true then Oper.wp Try.prog o a w K Q else E := by
  obtain ⟨i0, hi, hz0, hz1, hz2⟩ := info_parts Try.infoSpan
  obtain ⟨v', w', hr, h2, h3, _, _⟩ := run_append_own_at (P := Try.prog) (w := w) base 22 o.type 32 i0 (.agg #[.int .i64 0, .int .i64 0]) 2 16 Try.underlying22 hi hz0 hz1 hz2 rfl (by decide) v n (cel l) hown ⟨B, 0, none⟩ 1 c [.int .i64 p, .int .i64 q] rfl (fun j u hj => by
    match j, hj with
    | 0, hj => simp at hj; subst hj; rw [addr_add]; exact hB.cell.1
    | 1, hj => simp at hj; subst hj; rw [addr_add]; exact hB.cell.2) (by intro u hu; simp at hu; rcases hu with rfl | rfl <;> rfl) (by unfold maxLen; omega) (by omega) hb
  have hw : Region.wanted o (yielded ops a.tmps) = true := by simp [Region.wanted, hgd]
  rw [if_pos hw]
  obtain ⟨g', cap', rfl⟩ := ownsRow_succ h2
  unfold Oper.wp execOp
  simp only [ho, resolve, invoke, builtin, Sem.run_bind, Sem.run_pure, Result.andThen_ok, List.map_toArray, List.map_cons, List.map_nil, hs, hx, hr]
  refine h _ _ w' ?_ (Keeps.grown (Keeps.refl _ _) hown h3)
  rw [cel_append]
  exact h2

set_option maxRecDepth 100000 in
set_option maxHeartbeats 2000000 in
theorem spans_any (l : List M.Sp) (b off cap : Nat) (w : World) (hl : l.length ≤ 1000)
    (hc : ∀ i (h : i < l.length), w.cell? ⟨b, off + 2 * i, none⟩ = some (.int .i64 l[i].1) ∧ w.cell? ⟨b, off + (2 * i + 1), none⟩ = some (.int .i64 l[i].2)) (hb : b < w.heap.size) :
    Calls Try.prog 24 #[.slice (some ⟨b, off, none⟩) (2 * l.length) cap] w (Hands w l) := by
  have HC := Lib.hid hc
  clear hc
  go_enter Try.func24, Try.ntmps24
  go_wp2
  go_loopw [3, 2] (fun ii vv wr => ∃ j : Nat, j ≤ l.length ∧ ii = .int .i64 ((2 * j : Nat) : Int) ∧ Hid (wr.ownsRow w.heap.size 32 2 vv j (cel (l.take j)) ∧ Keeps w.heap.size w wr))
    (fun ii _ _ => 2 * l.length - (intOf ii).toNat)
  case atStart => exact ⟨0, Nat.zero_le _, rfl, Lib.hid ⟨World.ownsRow_nil _ _ _ _, Keeps.refl _ _⟩⟩
  case round =>
    obtain ⟨j, hj, rfl, HR⟩ := hrel
    obtain ⟨n, hn⟩ : ∃ n, 2 * l.length = n := ⟨_, rfl⟩
    rw [hn]
    by_cases hlt : j < l.length
    · obtain ⟨x0, x1⟩ := HC.out j hlt
      have hbl := HR.out.2.below (Nat.le_refl _)
      have y0 := (hbl.cell (p := ⟨b, off + 2 * j, none⟩) hb).trans x0
      have y1 := (hbl.cell (p := ⟨b, off + (2 * j + 1), none⟩) hb).trans x1
      have HS : Hid (l.take (j + 1) = l.take j ++ [(l[j].1, l[j].2)]) := Lib.hid (List.take_succ_eq_append_getElem hlt)
      obtain ⟨p, hp⟩ : ∃ p, l[j].1 = p := ⟨_, rfl⟩
      obtain ⟨q, hq⟩ : ∃ p, l[j].2 = p := ⟨_, rfl⟩
      rw [hp] at y0 HS; rw [hq] at y1 HS
      obtain ⟨i, hi⟩ : ∃ i, 2 * j = i := ⟨_, rfl⟩
      rw [hi] at y0 y1 ⊢
      have hi1 : i + 1 < n := by omega
      have hd : decide ((i : Int) + 1 < (n : Int)) = true := by simp; omega
      have hni : ((i : Int) + 1).toNat = i + 1 := by omega
      have hnb : n ≤ 2000 := by omega
      have hwr : IntKind.i64.wrap ((i : Int) + 1) = (i : Int) + 1 := IntWalk.i64_in _ (by omega)
      have hd5 : ¬ ((n : Int) ≤ (i : Int) + 1) := by omega
      have hd6 : ¬ ((i : Int) + 1 < 0) := by omega
      have hin : (0 : Int) ≤ (i : Int) + 1 := by omega
      have hd2 : (i : Int) + 1 < (n : Int) := by omega
      have hd3 : (i : Int) < (n : Int) := by omega
      have HI := Lib.hid hi; have HNN := Lib.hid hn
      clear hp hq hbl x0 x1 hi hn
      go_wp2_with fail
      have hbx : Below wr.heap.size wr (wr.alloc (.cells #[.int .i64 p, .int .i64 q] 32)).drew := ((Below.refl _ _).alloc (Nat.le_refl _) _).drew
      have z0 := (hbx.cell (p := ⟨b, off + i, none⟩) (cell_block y0)).trans y0
      have z1 := (hbx.cell (p := ⟨b, off + (i + 1), none⟩) (cell_block y1)).trans y1
      have hbw : b < (wr.alloc (.cells #[.int .i64 p, .int .i64 q] 32)).drew.heap.size := cell_block z0
      have HZ := Lib.hid (And.intro z0 (And.intro z1 hb))
      clear hbx hbw
      go_region_held3 (fun w' => w'.cell? ⟨b, off + i, none⟩ = some (.int .i64 p) ∧ w'.cell? ⟨b, off + (i + 1), none⟩ = some (.int .i64 q)) (first | exact ⟨y0, y1⟩ | exact ⟨z0, z1⟩)
        (first
          | (refine step_push rfl _ _ (by rfl) w.heap.size _ j (l.take j) (by rfl) (HR.out.1.alloc _).drew _ 1 p q (by rfl) (SpBox.new wr (p, q)) (by omega) (by have := HR.out.2.size; simp; omega) ?_; intro A' c' w4 HS4 hk4; have hk5 := (HR.out.2.alloc (.cells #[.int .i64 p, .int .i64 q] 32)).drew.trans hk4; have HX := Lib.hid (And.intro HS4 hk5); have z0 := (((hk4.below (by have := HR.out.2.size; simp; omega)).mono (by have := HR.out.2.size; omega)).cell (p := ⟨b, off + i, none⟩) HZ.out.2.2).trans HZ.out.1; have z1 := (((hk4.below (by have := HR.out.2.size; simp; omega)).mono (by have := HR.out.2.size; omega)).cell (p := ⟨b, off + (i + 1), none⟩) HZ.out.2.2).trans HZ.out.2.1; clear HS4 hk4 hk5))
      all_goals
        clear z0 z1 y0 y1
        have hwr2 : IntKind.i64.wrap ((i : Int) + 2) = (i : Int) + 2 := IntWalk.i64_in _ (by omega)
        go_wp2_with fail
        go_roundw
        case rel => exact ⟨j + 1, by omega, by rw [show 2 * (j + 1) = i + 2 from by have := HI.out; omega]; go_num, Lib.hid (by rw [HS.out]; exact HX.out)⟩
        case measure => have := HI.out; have := HNN.out; simp [intOf]; omega
    · have hjl : j = l.length := by omega
      obtain ⟨i, hi⟩ : ∃ i, 2 * j = i := ⟨_, rfl⟩
      rw [hi]
      have hnb : n ≤ 2000 := by omega
      have hin : i = n := by omega
      have hwr : IntKind.i64.wrap ((i : Int) + 1) = (i : Int) + 1 := IntWalk.i64_in _ (by omega)
      have hd3 : decide ((i : Int) + 1 < (n : Int)) = false := by simp; omega
      have hd4 : decide (i + 1 < n) = false := by simp; omega
      rw [hjl, List.take_length] at HR
      clear hi hjl hj hlt
      go_wp2_with fail
      go_ret
      exact ⟨_, rfl, owns_spans HR.out.1 (by omega), HR.out.2.below (Nat.le_refl _)⟩

end Go.Proofs.Ytgabfjcobcndaaa
