/- How a value of api.Value lies in memory; contracts of the functions that validate one. -/
import Derived.Test.YtmhchpdogjbpmaaNum
namespace Go.Proofs.Ytmhchpdogjbpmaa
open Go.RowKit

/-- In the world w, the value v of api.Value reads as the tree t; all its memory lies below block number B. -/
def Rep (B : Nat) (w : World) : (d : Nat) → M.T d → Value → Prop
  | 0, _, _ => False
  | d + 1, (k, n, s, l), v => (-9223372036854775808 ≤ k ∧ k ≤ 9223372036854775807) ∧ (-9223372036854775808 ≤ n ∧ n ≤ 9223372036854775807) ∧ s.size ≤ 140737488351232 ∧ l.length ≤ 70368744177664 ∧
    ∃ a cap, v = .agg #[.int .i64 k, .int .i64 n, .string s, .slice a l.length cap] ∧
      (l = [] ∨ ∃ b off, a = some ⟨b, off, none⟩ ∧ b < B ∧ ∀ i x, l[i]? = some x → ∃ c0 c1 c2 c3,
        w.cell? ⟨b, off + i * 4, none⟩ = some c0 ∧ w.cell? ⟨b, off + i * 4 + 1, none⟩ = some c1 ∧ w.cell? ⟨b, off + i * 4 + 2, none⟩ = some c2 ∧ w.cell? ⟨b, off + i * 4 + 3, none⟩ = some c3 ∧
        Rep B w d x (.agg #[c0, c1, c2, c3]))

theorem Rep.kept {B : Nat} {w w' : World} (h : Below B w w') : ∀ {d : Nat} {t : M.T d} {v : Value}, Rep B w d t v → Rep B w' d t v
  | 0, _, _, hr => hr
  | d + 1, (k, n, s, l), v, ⟨h1, h2, h3, h4, a, cap, hv, hl⟩ => by
    refine ⟨h1, h2, h3, h4, a, cap, hv, ?_⟩
    rcases hl with hl | ⟨b, off, ha, hb, hc⟩
    · exact .inl hl
    · refine .inr ⟨b, off, ha, hb, fun i x hx => ?_⟩
      obtain ⟨c0, c1, c2, c3, e0, e1, e2, e3, hr⟩ := hc i x hx
      exact ⟨c0, c1, c2, c3, (h.cell hb).trans e0, (h.cell hb).trans e1, (h.cell hb).trans e2, (h.cell hb).trans e3, Rep.kept h hr⟩

theorem Rep.mono {B B' : Nat} {w : World} (h : B ≤ B') : ∀ {d : Nat} {t : M.T d} {v : Value}, Rep B w d t v → Rep B' w d t v
  | 0, _, _, hr => hr
  | d + 1, (k, n, s, l), v, ⟨h1, h2, h3, h4, a, cap, hv, hl⟩ => by
    refine ⟨h1, h2, h3, h4, a, cap, hv, ?_⟩
    rcases hl with hl | ⟨b, off, ha, hb, hc⟩
    · exact .inl hl
    · refine .inr ⟨b, off, ha, by omega, fun i x hx => ?_⟩
      obtain ⟨c0, c1, c2, c3, e0, e1, e2, e3, hr⟩ := hc i x hx
      exact ⟨c0, c1, c2, c3, e0, e1, e2, e3, Rep.mono h hr⟩

/-- The shape of a value. -/
theorem Rep.shape {B : Nat} {w : World} : ∀ {d : Nat} {t : M.T d} {v : Value}, Rep B w d t v → ∃ k n s a len cap, v = .agg #[.int .i64 k, .int .i64 n, .string s, .slice a len cap]
  | _ + 1, (k, n, s, l), _, ⟨_, _, _, _, a, cap, hv, _⟩ => ⟨k, n, s, a, l.length, cap, hv⟩

/-- The memory of every world behind. -/
theorem Rep.later {w w' : World} {d : Nat} {t : M.T d} {v : Value} (hr : Rep w.heap.size w d t v) (h : Below w.heap.size w w') : Rep w'.heap.size w' d t v := (hr.kept h).mono h.size

theorem kinds_any (w : World) :
    Calls Try.prog 38 #[] w fun e w' => e = .returned (.agg #[.nilFunc, .nilFunc, .nilFunc, .func (.func 47) #[] #[], .func (.func 48) #[] #[], .func (.func 49) #[] #[],
      .func (.func 50) #[] #[], .func (.func 51) #[] #[], .func (.func 52) #[] #[], .func (.func 53) #[] #[], .func (.func 54) #[] #[], .func (.func 55) #[] #[]]) ∧ Below w.heap.size w w' := by
  go_enter Try.func38, Try.ntmps38
  go_wp2
  refine bodyPost_ret (v := .agg #[.nilFunc, .nilFunc, .nilFunc, .func (.func 47) #[] #[], .func (.func 48) #[] #[], .func (.func 49) #[] #[],
      .func (.func 50) #[] #[], .func (.func 51) #[] #[], .func (.func 52) #[] #[], .func (.func 53) #[] #[], .func (.func 54) #[] #[], .func (.func 55) #[] #[]]) (by simp [results, Try.results38, go_sem]) rfl ⟨rfl, (Below.refl _ _).alloc (Nat.le_refl _) _⟩

theorem kind1 (w : World) : (Instr.index 61 (.agg #[.nilFunc, .nilFunc, .nilFunc, .func (.func 47) #[] #[], .func (.func 48) #[] #[], .func (.func 49) #[] #[], .func (.func 50) #[] #[], .func (.func 51) #[] #[], .func (.func 52) #[] #[], .func (.func 53) #[] #[], .func (.func 54) #[] #[], .func (.func 55) #[] #[]]) (.int .i64 1)).run Try.prog w = .ok (.agg #[.func (.func 47) #[] #[], .func (.func 48) #[] #[], .func (.func 49) #[] #[]]) w := by kernel_rfl
theorem kind2 (w : World) : (Instr.index 61 (.agg #[.nilFunc, .nilFunc, .nilFunc, .func (.func 47) #[] #[], .func (.func 48) #[] #[], .func (.func 49) #[] #[], .func (.func 50) #[] #[], .func (.func 51) #[] #[], .func (.func 52) #[] #[], .func (.func 53) #[] #[], .func (.func 54) #[] #[], .func (.func 55) #[] #[]]) (.int .i64 2)).run Try.prog w = .ok (.agg #[.func (.func 50) #[] #[], .func (.func 51) #[] #[], .func (.func 52) #[] #[]]) w := by kernel_rfl
theorem kind3 (w : World) : (Instr.index 61 (.agg #[.nilFunc, .nilFunc, .nilFunc, .func (.func 47) #[] #[], .func (.func 48) #[] #[], .func (.func 49) #[] #[], .func (.func 50) #[] #[], .func (.func 51) #[] #[], .func (.func 52) #[] #[], .func (.func 53) #[] #[], .func (.func 54) #[] #[], .func (.func 55) #[] #[]]) (.int .i64 3)).run Try.prog w = .ok (.agg #[.func (.func 53) #[] #[], .func (.func 54) #[] #[], .func (.func 55) #[] #[]]) w := by kernel_rfl
theorem kind1_fits (w : World) : (Instr.field 60 (.agg #[.func (.func 47) #[] #[], .func (.func 48) #[] #[], .func (.func 49) #[] #[]]) 0).run Try.prog w = .ok (.func (.func 47) #[] #[]) w := by kernel_rfl
theorem kind1_size (w : World) : (Instr.field 60 (.agg #[.func (.func 47) #[] #[], .func (.func 48) #[] #[], .func (.func 49) #[] #[]]) 1).run Try.prog w = .ok (.func (.func 48) #[] #[]) w := by kernel_rfl
theorem kind1_write (w : World) : (Instr.field 60 (.agg #[.func (.func 47) #[] #[], .func (.func 48) #[] #[], .func (.func 49) #[] #[]]) 2).run Try.prog w = .ok (.func (.func 49) #[] #[]) w := by kernel_rfl
theorem kind2_fits (w : World) : (Instr.field 60 (.agg #[.func (.func 50) #[] #[], .func (.func 51) #[] #[], .func (.func 52) #[] #[]]) 0).run Try.prog w = .ok (.func (.func 50) #[] #[]) w := by kernel_rfl
theorem kind2_size (w : World) : (Instr.field 60 (.agg #[.func (.func 50) #[] #[], .func (.func 51) #[] #[], .func (.func 52) #[] #[]]) 1).run Try.prog w = .ok (.func (.func 51) #[] #[]) w := by kernel_rfl
theorem kind2_write (w : World) : (Instr.field 60 (.agg #[.func (.func 50) #[] #[], .func (.func 51) #[] #[], .func (.func 52) #[] #[]]) 2).run Try.prog w = .ok (.func (.func 52) #[] #[]) w := by kernel_rfl
theorem kind3_fits (w : World) : (Instr.field 60 (.agg #[.func (.func 53) #[] #[], .func (.func 54) #[] #[], .func (.func 55) #[] #[]]) 0).run Try.prog w = .ok (.func (.func 53) #[] #[]) w := by kernel_rfl
theorem kind3_size (w : World) : (Instr.field 60 (.agg #[.func (.func 53) #[] #[], .func (.func 54) #[] #[], .func (.func 55) #[] #[]]) 1).run Try.prog w = .ok (.func (.func 54) #[] #[]) w := by kernel_rfl
theorem kind3_write (w : World) : (Instr.field 60 (.agg #[.func (.func 53) #[] #[], .func (.func 54) #[] #[], .func (.func 55) #[] #[]]) 2).run Try.prog w = .ok (.func (.func 55) #[] #[]) w := by kernel_rfl
theorem beq_len0 (len : Nat) : ((len : Int) == 0) = (len == 0) := by rw [Bool.eq_iff_iff]; simp

theorem fitsInt_any (k n : Int) (s : ByteArray) (a : Option Addr) (len cap : Nat) (w : World) :
    Calls Try.prog 47 #[.agg #[.int .i64 k, .int .i64 n, .string s, .slice a len cap]] w fun e w' => e = .returned (.bool (s.toList.isEmpty && len == 0)) ∧ Below w.heap.size w w' := by
  by_cases hs : s.toList = []
  all_goals
    go_enter Try.func47, Try.ntmps47
    go_wp2
    go_ret
    exact ⟨by simp [hs, beq_len0], (Below.refl _ _).alloc (Nat.le_refl _) _⟩

theorem fitsText_any (k n : Int) (s : ByteArray) (a : Option Addr) (len cap : Nat) (w : World) :
    Calls Try.prog 50 #[.agg #[.int .i64 k, .int .i64 n, .string s, .slice a len cap]] w fun e w' => e = .returned (.bool (n == 0 && len == 0)) ∧ Below w.heap.size w w' := by
  by_cases hs : (n == 0) = true
  all_goals
    go_enter Try.func50, Try.ntmps50
    go_wp2
    go_ret
    exact ⟨by simp [hs, beq_len0], (Below.refl _ _).alloc (Nat.le_refl _) _⟩

theorem fitsList_any (k n : Int) (s : ByteArray) (a : Option Addr) (len cap : Nat) (w : World) :
    Calls Try.prog 53 #[.agg #[.int .i64 k, .int .i64 n, .string s, .slice a len cap]] w fun e w' => e = .returned (.bool (n == 0 && s.toList.isEmpty)) ∧ Below w.heap.size w w' := by
  by_cases hs : (n == 0) = true
  all_goals
    go_enter Try.func53, Try.ntmps53
    go_wp2
    go_ret
    exact ⟨by simp [hs], (Below.refl _ _).alloc (Nat.le_refl _) _⟩

/-- A contract that ends in 'Below', met in whatever world a region that draws has come to. -/
theorem regrown_call {f : FuncId} {args : Array Value} {w : World} {v : Value} (h : ∀ W, Below w.heap.size w W → Calls Try.prog f args W fun e w' => e = .returned v ∧ Below W.heap.size W w') (d : Nat) (os : Array Obj) :
    Calls Try.prog f args (Sort.grow (redrawn w d) os) fun e w'' => e = .returned v ∧ ∃ p : Regrown, w'' = Sort.grow (redrawn w p.d) p.os := Calls.regrown_of (h _ (below_regrown w d os))

theorem wpQuiet_mono {P : Program} {ops : Array Oper} {C : World → Prop} {Q Q' : Act → Prop} (h : ∀ a, Q a → Q' a) : ∀ (l : List Oper) (a : Act), wpQuiet P ops C Q l a → wpQuiet P ops C Q' l a
  | [], a, hh => h a hh
  | o :: rest, a, hh => by
    unfold wpQuiet at *
    split
    · rename_i hw; rw [if_pos hw] at hh; exact Oper.quiet_mono (wpQuiet_mono h rest) hh
    · rename_i hw; rw [if_neg hw] at hh; exact wpQuiet_mono h rest _ hh

theorem wp_region_qb {id : Nat} {Q : Exit → Act → World → Prop} {a : Act} {w : World} {l : List Oper} (hB : Region.lexB .any l.toArray = true)
    (h : wpQuiet Try.prog l.toArray (fun w' => ∃ p : Regrown, w' = Sort.grow (redrawn w p.d) p.os) (fun a' => ∀ w', Below w.heap.size w w' → Q .normal a' w') l a) : (Code.region id l.toArray true).wp Try.prog Q a w := by
  refine wp_region_quiet_below (by kernel_rfl) hB ?_
  refine wpQuiet_mono ?_ _ _ h
  rintro a' h w' ⟨p, rfl⟩
  exact h _ (below_regrown _ _ _)

/-- The parameter in its box. -/
theorem box4 (w : World) (v0 v1 v2 v3 : Value) (t : TypeId) :
    (w.alloc (.cells #[v0, v1, v2, v3] t)).cell? ⟨w.heap.size, 0, none⟩ = some v0 ∧ (w.alloc (.cells #[v0, v1, v2, v3] t)).cell? ⟨w.heap.size, 1, none⟩ = some v1 ∧
    (w.alloc (.cells #[v0, v1, v2, v3] t)).cell? ⟨w.heap.size, 2, none⟩ = some v2 ∧ (w.alloc (.cells #[v0, v1, v2, v3] t)).cell? ⟨w.heap.size, 3, none⟩ = some v3 := by
  simp

set_option maxHeartbeats 400000 in
theorem depth_low (k n : Int) (s : ByteArray) (a : Option Addr) (len cap : Nat) (w : World) (hk : k < 1) :
    Calls Try.prog 29 #[.agg #[.int .i64 k, .int .i64 n, .string s, .slice a len cap]] w fun e w' => e = .returned (.tuple #[.int .i64 0, .bool false]) ∧ Below w.heap.size w w' := by
  have hd : decide (k < 1) = true := by simpa using hk
  obtain ⟨b0, b1, b2, b3⟩ := box4 w (.int .i64 k) (.int .i64 n) (.string s) (.slice a len cap) 24
  go_enter Try.func29, Try.ntmps29
  go_wp2_with fail
  have hbel : Below w.heap.size w (w.alloc (.cells #[.int .i64 k, .int .i64 n, .string s, .slice a len cap] 24)) := (Below.refl _ _).alloc (Nat.le_refl _) _
  generalize hW : w.alloc (.cells #[.int .i64 k, .int .i64 n, .string s, .slice a len cap] 24) = W at *
  clear hW
  have k0 := cell_regrown b0; have k1 := cell_regrown b1; have k2 := cell_regrown b2; have k3 := cell_regrown b3
  refine wp_region_qb (by kernel_rfl) ?_
  repeat (go_big_quiet_step (fail))
  refine wpQuiet_nil ?_
  intro W2 hb2
  skip
  go_wp2_with fail
  go_ret2
  exact ⟨rfl, hbel.trans (hb2.mono hbel.size)⟩

set_option maxHeartbeats 400000 in
theorem depth_high (k n : Int) (s : ByteArray) (a : Option Addr) (len cap : Nat) (w : World) (hk : 3 < k) :
    Calls Try.prog 29 #[.agg #[.int .i64 k, .int .i64 n, .string s, .slice a len cap]] w fun e w' => e = .returned (.tuple #[.int .i64 0, .bool false]) ∧ Below w.heap.size w w' := by
  have hd : decide (k < 1) = false := by simp; omega
  have hd2 : decide (3 < k) = true := by simpa using hk
  obtain ⟨b0, b1, b2, b3⟩ := box4 w (.int .i64 k) (.int .i64 n) (.string s) (.slice a len cap) 24
  go_enter Try.func29, Try.ntmps29
  go_wp2_with fail
  have hbel : Below w.heap.size w (w.alloc (.cells #[.int .i64 k, .int .i64 n, .string s, .slice a len cap] 24)) := (Below.refl _ _).alloc (Nat.le_refl _) _
  generalize hW : w.alloc (.cells #[.int .i64 k, .int .i64 n, .string s, .slice a len cap] 24) = W at *
  clear hW
  have k0 := cell_regrown b0; have k1 := cell_regrown b1; have k2 := cell_regrown b2; have k3 := cell_regrown b3
  refine wp_region_qb (by kernel_rfl) ?_
  repeat (go_big_quiet_step (fail))
  refine wpQuiet_nil ?_
  intro W2 hb2
  skip
  go_wp2_with fail
  go_ret2
  exact ⟨rfl, hbel.trans (hb2.mono hbel.size)⟩

set_option maxHeartbeats 400000 in
theorem depth_int_true (n : Int) (s : ByteArray) (a : Option Addr) (len cap : Nat) (w : World) (hf : (s.toList.isEmpty && len == 0) = true) :
    Calls Try.prog 29 #[.agg #[.int .i64 1, .int .i64 n, .string s, .slice a len cap]] w fun e w' => e = .returned (.tuple #[.int .i64 0, .bool true]) ∧ Below w.heap.size w w' := by
  have ix := kind1; have fx := kind1_fits
  obtain ⟨b0, b1, b2, b3⟩ := box4 w (.int .i64 1) (.int .i64 n) (.string s) (.slice a len cap) 24
  go_enter Try.func29, Try.ntmps29
  go_wp2_with fail
  have hbel : Below w.heap.size w (w.alloc (.cells #[.int .i64 1, .int .i64 n, .string s, .slice a len cap] 24)) := (Below.refl _ _).alloc (Nat.le_refl _) _
  generalize hW : w.alloc (.cells #[.int .i64 1, .int .i64 n, .string s, .slice a len cap] 24) = W at *
  clear hW
  have k0 := cell_regrown b0; have k1 := cell_regrown b1; have k2 := cell_regrown b2; have k3 := cell_regrown b3
  refine wp_region_qb (by kernel_rfl) ?_
  repeat (go_big_quiet_step (first | exact regrown_call (fun W _ => kinds_any W) _ _ | exact regrown_call (fun W _ => by have := fitsInt_any 1 n s a len cap W; rw [hf] at this; exact this) _ _))
  refine wpQuiet_nil ?_
  intro W2 hb2
  obtain ⟨j0, j1⟩ := And.intro (hb2.cell (p := ⟨w.heap.size, 0, none⟩) (block_lt_of_cell b0)) (hb2.cell (p := ⟨w.heap.size, 1, none⟩) (block_lt_of_cell b1))
  rw [b0] at j0; rw [b1] at j1
  go_wp2_with fail
  go_ret2
  exact ⟨rfl, hbel.trans (hb2.mono hbel.size)⟩

set_option maxHeartbeats 400000 in
theorem depth_int_false (n : Int) (s : ByteArray) (a : Option Addr) (len cap : Nat) (w : World) (hf : (s.toList.isEmpty && len == 0) = false) :
    Calls Try.prog 29 #[.agg #[.int .i64 1, .int .i64 n, .string s, .slice a len cap]] w fun e w' => e = .returned (.tuple #[.int .i64 0, .bool false]) ∧ Below w.heap.size w w' := by
  have ix := kind1; have fx := kind1_fits
  obtain ⟨b0, b1, b2, b3⟩ := box4 w (.int .i64 1) (.int .i64 n) (.string s) (.slice a len cap) 24
  go_enter Try.func29, Try.ntmps29
  go_wp2_with fail
  have hbel : Below w.heap.size w (w.alloc (.cells #[.int .i64 1, .int .i64 n, .string s, .slice a len cap] 24)) := (Below.refl _ _).alloc (Nat.le_refl _) _
  generalize hW : w.alloc (.cells #[.int .i64 1, .int .i64 n, .string s, .slice a len cap] 24) = W at *
  clear hW
  have k0 := cell_regrown b0; have k1 := cell_regrown b1; have k2 := cell_regrown b2; have k3 := cell_regrown b3
  refine wp_region_qb (by kernel_rfl) ?_
  repeat (go_big_quiet_step (first | exact regrown_call (fun W _ => kinds_any W) _ _ | exact regrown_call (fun W _ => by have := fitsInt_any 1 n s a len cap W; rw [hf] at this; exact this) _ _))
  refine wpQuiet_nil ?_
  intro W2 hb2
  skip
  go_wp2_with fail
  go_ret2
  exact ⟨rfl, hbel.trans (hb2.mono hbel.size)⟩

set_option maxHeartbeats 400000 in
theorem depth_text_true (n : Int) (s : ByteArray) (a : Option Addr) (len cap : Nat) (w : World) (hf : (n == 0 && len == 0) = true) :
    Calls Try.prog 29 #[.agg #[.int .i64 2, .int .i64 n, .string s, .slice a len cap]] w fun e w' => e = .returned (.tuple #[.int .i64 0, .bool true]) ∧ Below w.heap.size w w' := by
  have ix := kind2; have fx := kind2_fits
  obtain ⟨b0, b1, b2, b3⟩ := box4 w (.int .i64 2) (.int .i64 n) (.string s) (.slice a len cap) 24
  go_enter Try.func29, Try.ntmps29
  go_wp2_with fail
  have hbel : Below w.heap.size w (w.alloc (.cells #[.int .i64 2, .int .i64 n, .string s, .slice a len cap] 24)) := (Below.refl _ _).alloc (Nat.le_refl _) _
  generalize hW : w.alloc (.cells #[.int .i64 2, .int .i64 n, .string s, .slice a len cap] 24) = W at *
  clear hW
  have k0 := cell_regrown b0; have k1 := cell_regrown b1; have k2 := cell_regrown b2; have k3 := cell_regrown b3
  refine wp_region_qb (by kernel_rfl) ?_
  repeat (go_big_quiet_step (first | exact regrown_call (fun W _ => kinds_any W) _ _ | exact regrown_call (fun W _ => by have := fitsText_any 2 n s a len cap W; rw [hf] at this; exact this) _ _))
  refine wpQuiet_nil ?_
  intro W2 hb2
  obtain ⟨j0, j1⟩ := And.intro (hb2.cell (p := ⟨w.heap.size, 0, none⟩) (block_lt_of_cell b0)) (hb2.cell (p := ⟨w.heap.size, 1, none⟩) (block_lt_of_cell b1))
  rw [b0] at j0; rw [b1] at j1
  go_wp2_with fail
  go_ret2
  exact ⟨rfl, hbel.trans (hb2.mono hbel.size)⟩

set_option maxHeartbeats 400000 in
theorem depth_text_false (n : Int) (s : ByteArray) (a : Option Addr) (len cap : Nat) (w : World) (hf : (n == 0 && len == 0) = false) :
    Calls Try.prog 29 #[.agg #[.int .i64 2, .int .i64 n, .string s, .slice a len cap]] w fun e w' => e = .returned (.tuple #[.int .i64 0, .bool false]) ∧ Below w.heap.size w w' := by
  have ix := kind2; have fx := kind2_fits
  obtain ⟨b0, b1, b2, b3⟩ := box4 w (.int .i64 2) (.int .i64 n) (.string s) (.slice a len cap) 24
  go_enter Try.func29, Try.ntmps29
  go_wp2_with fail
  have hbel : Below w.heap.size w (w.alloc (.cells #[.int .i64 2, .int .i64 n, .string s, .slice a len cap] 24)) := (Below.refl _ _).alloc (Nat.le_refl _) _
  generalize hW : w.alloc (.cells #[.int .i64 2, .int .i64 n, .string s, .slice a len cap] 24) = W at *
  clear hW
  have k0 := cell_regrown b0; have k1 := cell_regrown b1; have k2 := cell_regrown b2; have k3 := cell_regrown b3
  refine wp_region_qb (by kernel_rfl) ?_
  repeat (go_big_quiet_step (first | exact regrown_call (fun W _ => kinds_any W) _ _ | exact regrown_call (fun W _ => by have := fitsText_any 2 n s a len cap W; rw [hf] at this; exact this) _ _))
  refine wpQuiet_nil ?_
  intro W2 hb2
  skip
  go_wp2_with fail
  go_ret2
  exact ⟨rfl, hbel.trans (hb2.mono hbel.size)⟩

set_option maxHeartbeats 400000 in
theorem depth_list_false (n : Int) (s : ByteArray) (a : Option Addr) (len cap : Nat) (w : World) (hf : (n == 0 && s.toList.isEmpty) = false) :
    Calls Try.prog 29 #[.agg #[.int .i64 3, .int .i64 n, .string s, .slice a len cap]] w fun e w' => e = .returned (.tuple #[.int .i64 0, .bool false]) ∧ Below w.heap.size w w' := by
  have ix := kind3; have fx := kind3_fits
  obtain ⟨b0, b1, b2, b3⟩ := box4 w (.int .i64 3) (.int .i64 n) (.string s) (.slice a len cap) 24
  go_enter Try.func29, Try.ntmps29
  go_wp2_with fail
  have hbel : Below w.heap.size w (w.alloc (.cells #[.int .i64 3, .int .i64 n, .string s, .slice a len cap] 24)) := (Below.refl _ _).alloc (Nat.le_refl _) _
  generalize hW : w.alloc (.cells #[.int .i64 3, .int .i64 n, .string s, .slice a len cap] 24) = W at *
  clear hW
  have k0 := cell_regrown b0; have k1 := cell_regrown b1; have k2 := cell_regrown b2; have k3 := cell_regrown b3
  refine wp_region_qb (by kernel_rfl) ?_
  repeat (go_big_quiet_step (first | exact regrown_call (fun W _ => kinds_any W) _ _ | exact regrown_call (fun W _ => by have := fitsList_any 3 n s a len cap W; rw [hf] at this; exact this) _ _))
  refine wpQuiet_nil ?_
  intro W2 hb2
  skip
  go_wp2_with fail
  go_ret2
  exact ⟨rfl, hbel.trans (hb2.mono hbel.size)⟩

end Go.Proofs.Ytmhchpdogjbpmaa
