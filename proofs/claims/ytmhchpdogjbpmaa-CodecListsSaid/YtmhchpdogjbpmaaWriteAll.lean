/- Contract of codec's write, the three kinds, whatever order the statement takes. -/
import Derived.Test.YtmhchpdogjbpmaaWrite
namespace Go.Proofs.Ytmhchpdogjbpmaa
open Go.RowKit

set_option maxHeartbeats 2000000 in
theorem write_int (n : Int) (s : ByteArray) (a : Option Addr) (len cap : Nat) (w : World) (add : List UInt8)
    (base : Nat) (b : Value) (m : Nat) (xs : List UInt8) (ho : w.ownsRow base 5 1 b m (bytes xs)) (hb : base ≤ w.heap.size) (hm : m ≤ 140737488355327)
    (hc : ∀ W v, Keeps base 5 w W → W.ownsRow base 5 1 v (m + 1) (bytes (xs ++ [1])) → Calls Try.prog 49 #[v, .agg #[.int .i64 1, .int .i64 n, .string s, .slice a len cap]] W (Wrote base (m + 1) (xs ++ [1]) add W)) :
    Calls Try.prog 26 #[b, .agg #[.int .i64 1, .int .i64 n, .string s, .slice a len cap]] w (Wrote base m xs (1 :: add) w) := by
  have ix := kind1; have fx := kind1_write
  have HC := Lib.hid hc; clear hc
  go_enter Try.func26, Try.ntmps26
  go_wp2_with fail
  have hkw : Keeps base 5 w (w.alloc (.cells #[.int .i64 1, .int .i64 n, .string s, .slice a len cap] 24)).drew := ((Keeps.refl _ _ _).alloc _).drew
  have hbox : (w.alloc (.cells #[.int .i64 1, .int .i64 n, .string s, .slice a len cap] 24)).drew.heap[w.heap.size]? = some (.cells #[.int .i64 1, .int .i64 n, .string s, .slice a len cap] 24 (0, 0)) := heap_alloc_new w _
  have hoW : (w.alloc (.cells #[.int .i64 1, .int .i64 n, .string s, .slice a len cap] 24)).drew.ownsRow base 5 1 b m (bytes xs) := (ho.alloc _).drew
  generalize hW : w.alloc (.cells #[.int .i64 1, .int .i64 n, .string s, .slice a len cap] 24) = W at *
  clear hW
  have hbW : base ≤ W.drew.heap.size := Nat.le_trans hb hkw.size
  have hK0 : Keeps base 5 W.drew W.drew := Keeps.refl _ _ _
  obtain ⟨b0, b1, b2, b3⟩ := box_at hK0 hbox
  go_region_held3 (fun w' => w'.cell? ⟨w.heap.size, 0, none⟩ = some (.int .i64 1) ∧ w'.cell? ⟨w.heap.size, 1, none⟩ = some (.int .i64 n) ∧ w'.cell? ⟨w.heap.size, 2, none⟩ = some (.string s) ∧ w'.cell? ⟨w.heap.size, 3, none⟩ = some (.slice a len cap))
    (first | exact box_at (by assumption) hbox | exact box_at (Keeps.alloc (by assumption) _) hbox)
    (first
      | (go_at_call 38; refine (kinds_any _).mono ?_; rintro e w1 ⟨rfl, hb1⟩; first | (have hK1 : Keeps base 5 W.drew w1 := Keeps.trans (b := w2) hK2 (Below.keeps hb1); have ho3 := ownsRow_below ho2 hb1) | (have hK1 : Keeps base 5 W.drew w1 := Keeps.trans hK0 (Below.keeps hb1); have ho1 := ownsRow_below hoW hb1) | (have hK1 : Keeps base 5 W.drew w1 := Keeps.trans (hK0.alloc _) (Below.keeps hb1); have ho1 := ownsRow_below (hoW.alloc _) hb1; have hcell : w1.cell? ⟨W.heap.size, 0, none⟩ = some (.int .u8 1) := (hb1.cell (p := ⟨W.heap.size, 0, none⟩) (by simp)).trans (by first | (simp; done) | (simp; rfl))))
      | (refine step_push rfl _ _ rfl base b m xs rfl ?_ _ 1 rfl ?_ (by decide) (by decide) hm ?_ ?_; (first | assumption | exact hoW.alloc _ | exact World.ownsRow.alloc (by assumption) _); (first | assumption | (simp; done) | (simp; rfl)); (first | exact Nat.le_trans hbW (hK1.alloc _).size | exact Nat.le_trans hbW (hK0.alloc _).size | exact Nat.le_trans hbW hK1.size); intro v2 w2 ho2 hk2; first | (have hK2 : Keeps base 5 W.drew w2 := hK1.trans hk2) | (have hK2 : Keeps base 5 W.drew w2 := (hK1.alloc _).trans hk2) | (have hK2 : Keeps base 5 W.drew w2 := (hK0.alloc _).trans hk2))
      | (go_at_call 49; refine (HC.out _ _ (hkw.trans (by assumption)) (by assumption)).mono ?_; rintro e w4 ⟨v4, rfl, ho4, hk4⟩; have hK4 : Keeps base 5 W.drew w4 := Keeps.trans (by assumption) hk4))
  all_goals
    go_wp2_with fail
    go_ret
    refine ⟨_, rfl, ?_, hkw.trans hK4⟩
    rw [List.length_cons, Nat.add_comm add.length, ← Nat.add_assoc]
    simpa using ho4

set_option maxHeartbeats 2000000 in
theorem write_text (n : Int) (s : ByteArray) (a : Option Addr) (len cap : Nat) (w : World) (add : List UInt8)
    (base : Nat) (b : Value) (m : Nat) (xs : List UInt8) (ho : w.ownsRow base 5 1 b m (bytes xs)) (hb : base ≤ w.heap.size) (hm : m ≤ 140737488355327)
    (hc : ∀ W v, Keeps base 5 w W → W.ownsRow base 5 1 v (m + 1) (bytes (xs ++ [2])) → Calls Try.prog 52 #[v, .agg #[.int .i64 2, .int .i64 n, .string s, .slice a len cap]] W (Wrote base (m + 1) (xs ++ [2]) add W)) :
    Calls Try.prog 26 #[b, .agg #[.int .i64 2, .int .i64 n, .string s, .slice a len cap]] w (Wrote base m xs (2 :: add) w) := by
  have ix := kind2; have fx := kind2_write
  have HC := Lib.hid hc; clear hc
  go_enter Try.func26, Try.ntmps26
  go_wp2_with fail
  have hkw : Keeps base 5 w (w.alloc (.cells #[.int .i64 2, .int .i64 n, .string s, .slice a len cap] 24)).drew := ((Keeps.refl _ _ _).alloc _).drew
  have hbox : (w.alloc (.cells #[.int .i64 2, .int .i64 n, .string s, .slice a len cap] 24)).drew.heap[w.heap.size]? = some (.cells #[.int .i64 2, .int .i64 n, .string s, .slice a len cap] 24 (0, 0)) := heap_alloc_new w _
  have hoW : (w.alloc (.cells #[.int .i64 2, .int .i64 n, .string s, .slice a len cap] 24)).drew.ownsRow base 5 1 b m (bytes xs) := (ho.alloc _).drew
  generalize hW : w.alloc (.cells #[.int .i64 2, .int .i64 n, .string s, .slice a len cap] 24) = W at *
  clear hW
  have hbW : base ≤ W.drew.heap.size := Nat.le_trans hb hkw.size
  have hK0 : Keeps base 5 W.drew W.drew := Keeps.refl _ _ _
  obtain ⟨b0, b1, b2, b3⟩ := box_at hK0 hbox
  go_region_held3 (fun w' => w'.cell? ⟨w.heap.size, 0, none⟩ = some (.int .i64 2) ∧ w'.cell? ⟨w.heap.size, 1, none⟩ = some (.int .i64 n) ∧ w'.cell? ⟨w.heap.size, 2, none⟩ = some (.string s) ∧ w'.cell? ⟨w.heap.size, 3, none⟩ = some (.slice a len cap))
    (first | exact box_at (by assumption) hbox | exact box_at (Keeps.alloc (by assumption) _) hbox)
    (first
      | (go_at_call 38; refine (kinds_any _).mono ?_; rintro e w1 ⟨rfl, hb1⟩; first | (have hK1 : Keeps base 5 W.drew w1 := Keeps.trans (b := w2) hK2 (Below.keeps hb1); have ho3 := ownsRow_below ho2 hb1) | (have hK1 : Keeps base 5 W.drew w1 := Keeps.trans hK0 (Below.keeps hb1); have ho1 := ownsRow_below hoW hb1) | (have hK1 : Keeps base 5 W.drew w1 := Keeps.trans (hK0.alloc _) (Below.keeps hb1); have ho1 := ownsRow_below (hoW.alloc _) hb1; have hcell : w1.cell? ⟨W.heap.size, 0, none⟩ = some (.int .u8 2) := (hb1.cell (p := ⟨W.heap.size, 0, none⟩) (by simp)).trans (by first | (simp; done) | (simp; rfl))))
      | (refine step_push rfl _ _ rfl base b m xs rfl ?_ _ 2 rfl ?_ (by decide) (by decide) hm ?_ ?_; (first | assumption | exact hoW.alloc _ | exact World.ownsRow.alloc (by assumption) _); (first | assumption | (simp; done) | (simp; rfl)); (first | exact Nat.le_trans hbW (hK1.alloc _).size | exact Nat.le_trans hbW (hK0.alloc _).size | exact Nat.le_trans hbW hK1.size); intro v2 w2 ho2 hk2; first | (have hK2 : Keeps base 5 W.drew w2 := hK1.trans hk2) | (have hK2 : Keeps base 5 W.drew w2 := (hK1.alloc _).trans hk2) | (have hK2 : Keeps base 5 W.drew w2 := (hK0.alloc _).trans hk2))
      | (go_at_call 52; refine (HC.out _ _ (hkw.trans (by assumption)) (by assumption)).mono ?_; rintro e w4 ⟨v4, rfl, ho4, hk4⟩; have hK4 : Keeps base 5 W.drew w4 := Keeps.trans (by assumption) hk4))
  all_goals
    go_wp2_with fail
    go_ret
    refine ⟨_, rfl, ?_, hkw.trans hK4⟩
    rw [List.length_cons, Nat.add_comm add.length, ← Nat.add_assoc]
    simpa using ho4

set_option maxHeartbeats 2000000 in
theorem write_list (n : Int) (s : ByteArray) (a : Option Addr) (len cap : Nat) (w : World) (add : List UInt8)
    (base : Nat) (b : Value) (m : Nat) (xs : List UInt8) (ho : w.ownsRow base 5 1 b m (bytes xs)) (hb : base ≤ w.heap.size) (hm : m ≤ 140737488355327)
    (hc : ∀ W v, Keeps base 5 w W → W.ownsRow base 5 1 v (m + 1) (bytes (xs ++ [3])) → Calls Try.prog 55 #[v, .agg #[.int .i64 3, .int .i64 n, .string s, .slice a len cap]] W (Wrote base (m + 1) (xs ++ [3]) add W)) :
    Calls Try.prog 26 #[b, .agg #[.int .i64 3, .int .i64 n, .string s, .slice a len cap]] w (Wrote base m xs (3 :: add) w) := by
  have ix := kind3; have fx := kind3_write
  have HC := Lib.hid hc; clear hc
  go_enter Try.func26, Try.ntmps26
  go_wp2_with fail
  have hkw : Keeps base 5 w (w.alloc (.cells #[.int .i64 3, .int .i64 n, .string s, .slice a len cap] 24)).drew := ((Keeps.refl _ _ _).alloc _).drew
  have hbox : (w.alloc (.cells #[.int .i64 3, .int .i64 n, .string s, .slice a len cap] 24)).drew.heap[w.heap.size]? = some (.cells #[.int .i64 3, .int .i64 n, .string s, .slice a len cap] 24 (0, 0)) := heap_alloc_new w _
  have hoW : (w.alloc (.cells #[.int .i64 3, .int .i64 n, .string s, .slice a len cap] 24)).drew.ownsRow base 5 1 b m (bytes xs) := (ho.alloc _).drew
  generalize hW : w.alloc (.cells #[.int .i64 3, .int .i64 n, .string s, .slice a len cap] 24) = W at *
  clear hW
  have hbW : base ≤ W.drew.heap.size := Nat.le_trans hb hkw.size
  have hK0 : Keeps base 5 W.drew W.drew := Keeps.refl _ _ _
  obtain ⟨b0, b1, b2, b3⟩ := box_at hK0 hbox
  go_region_held3 (fun w' => w'.cell? ⟨w.heap.size, 0, none⟩ = some (.int .i64 3) ∧ w'.cell? ⟨w.heap.size, 1, none⟩ = some (.int .i64 n) ∧ w'.cell? ⟨w.heap.size, 2, none⟩ = some (.string s) ∧ w'.cell? ⟨w.heap.size, 3, none⟩ = some (.slice a len cap))
    (first | exact box_at (by assumption) hbox | exact box_at (Keeps.alloc (by assumption) _) hbox)
    (first
      | (go_at_call 38; refine (kinds_any _).mono ?_; rintro e w1 ⟨rfl, hb1⟩; first | (have hK1 : Keeps base 5 W.drew w1 := Keeps.trans (b := w2) hK2 (Below.keeps hb1); have ho3 := ownsRow_below ho2 hb1) | (have hK1 : Keeps base 5 W.drew w1 := Keeps.trans hK0 (Below.keeps hb1); have ho1 := ownsRow_below hoW hb1) | (have hK1 : Keeps base 5 W.drew w1 := Keeps.trans (hK0.alloc _) (Below.keeps hb1); have ho1 := ownsRow_below (hoW.alloc _) hb1; have hcell : w1.cell? ⟨W.heap.size, 0, none⟩ = some (.int .u8 3) := (hb1.cell (p := ⟨W.heap.size, 0, none⟩) (by simp)).trans (by first | (simp; done) | (simp; rfl))))
      | (refine step_push rfl _ _ rfl base b m xs rfl ?_ _ 3 rfl ?_ (by decide) (by decide) hm ?_ ?_; (first | assumption | exact hoW.alloc _ | exact World.ownsRow.alloc (by assumption) _); (first | assumption | (simp; done) | (simp; rfl)); (first | exact Nat.le_trans hbW (hK1.alloc _).size | exact Nat.le_trans hbW (hK0.alloc _).size | exact Nat.le_trans hbW hK1.size); intro v2 w2 ho2 hk2; first | (have hK2 : Keeps base 5 W.drew w2 := hK1.trans hk2) | (have hK2 : Keeps base 5 W.drew w2 := (hK1.alloc _).trans hk2) | (have hK2 : Keeps base 5 W.drew w2 := (hK0.alloc _).trans hk2))
      | (go_at_call 55; refine (HC.out _ _ (hkw.trans (by assumption)) (by assumption)).mono ?_; rintro e w4 ⟨v4, rfl, ho4, hk4⟩; have hK4 : Keeps base 5 W.drew w4 := Keeps.trans (by assumption) hk4))
  all_goals
    go_wp2_with fail
    go_ret
    refine ⟨_, rfl, ?_, hkw.trans hK4⟩
    rw [List.length_cons, Nat.add_comm add.length, ← Nat.add_assoc]
    simpa using ho4

/-- write, at every well-formed value. -/
theorem write_any (B base : Nat) (hB : B ≤ base) : ∀ (d : Nat) (t : M.T d) (v b : Value) (m : Nat) (xs : List UInt8) (w : World), Rep B w d t v → M.formed d t = true → w.ownsRow base 5 1 b m (bytes xs) → base ≤ w.heap.size → m + (M.enc d t).length ≤ 35184372088832 →
    Calls Try.prog 26 #[b, v] w (Wrote base m xs (M.enc d t) w)
  | 0, _, _, _, _, _, _, h, _, _, _, _ => h.elim
  | d + 1, (k, n, s, l), v, b, m, xs, w, ⟨h1, h2, h3, h4, a, cap, hv, hl⟩, hf, ho, hb, hsz => by
    subst hv
    simp only [M.formed, Bool.or_eq_true, Bool.and_eq_true, beq_iff_eq] at hf
    have hu := M.unsig_bd n h2.1 h2.2
    have hn := (M.num_len (M.unsig n).toNat (by omega)).2
    have hn2 := (M.num_len s.size (by omega)).2
    have hn3 := (M.num_len l.length (by omega)).2
    rcases hf with (⟨⟨rfl, _⟩, _⟩ | ⟨⟨rfl, _⟩, _⟩) | ⟨⟨⟨rfl, _⟩, _⟩, hall⟩
    · have he : M.enc (d + 1) (1, n, s, l) = 1 :: M.num (M.unsig n).toNat := by simp [M.enc]
      rw [he] at hsz ⊢
      rw [List.length_cons] at hsz
      exact write_int n s a l.length cap w _ base b m xs ho hb (by omega) (fun W v hk ho' => writeInt_any 1 n s a l.length cap W h2.1 h2.2 base v (m + 1) _ ho' (Nat.le_trans hb hk.size) (by omega))
    · have he : M.enc (d + 1) (2, n, s, l) = 2 :: (M.num s.size ++ s.data.toList) := by simp [M.enc]
      rw [he] at hsz ⊢
      rw [List.length_cons, List.length_append, show s.data.toList.length = s.size from by simp] at hsz
      exact write_text n s a l.length cap w _ base b m xs ho hb (by omega) (fun W v hk ho' => writeText_any 2 n s a l.length cap W (by omega) base v (m + 1) _ ho' (Nat.le_trans hb hk.size) (by omega))
    · have he : M.enc (d + 1) (3, n, s, l) = 3 :: (M.num l.length ++ (l.map (M.enc d)).flatten) := by simp [M.enc]
      rw [he] at hsz ⊢
      rw [List.length_cons, List.length_append] at hsz
      refine write_list n s a l.length cap w _ base b m xs ho hb (by omega) (fun W v hk ho' => ?_)
      have hrep : Rep B w (d + 1) (3, n, s, l) (.agg #[.int .i64 3, .int .i64 n, .string s, .slice a l.length cap]) := ⟨h1, h2, h3, h4, a, cap, rfl, hl⟩
      refine writeList_any B d 3 n s l a cap W h4 base v (m + 1) _ ho' (Nat.le_trans hb hk.size) hB ?_ (by omega) (fun x hx v b m xs w hr ho hb hs => ?_)
      · obtain ⟨_, _, _, _, a', cap', hv', hl'⟩ := hrep.kept ((hk.below hb).mono hB)
        simp only [Value.agg.injEq, Array.mk.injEq, List.cons.injEq, and_true, true_and, Value.slice.injEq] at hv'
        obtain ⟨rfl, rfl⟩ := hv'
        exact hl'
      · exact write_any B base hB d x v b m xs w hr (List.all_eq_true.1 hall x hx) ho hb (by omega)

end Go.Proofs.Ytmhchpdogjbpmaa
