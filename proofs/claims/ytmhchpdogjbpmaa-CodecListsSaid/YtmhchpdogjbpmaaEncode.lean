/- Contracts of codec's Encode and Size. -/
import Derived.Test.YtmhchpdogjbpmaaWriteAll
namespace Go.Proofs.Ytmhchpdogjbpmaa
open Go.RowKit

/-- 'make([]byte, 0, n)', as an equation. -/
theorem run_make (w : World) (base n : Nat) (hn : n ≤ 140737488355328) (hb : base ≤ w.heap.size) :
    ∃ w', (Instr.makeSlice 27 (.int .i64 0) (.int .i64 (n : Int))).run Try.prog w = .ok (.slice (some ⟨w.heap.size, 0, none⟩) 0 n) w' ∧
      w'.ownsRow base 5 1 (.slice (some ⟨w.heap.size, 0, none⟩) 0 n) 0 (bytes []) ∧ Keeps base 5 w w' := by
  obtain ⟨i0, hi, hz0, hz1, hz2⟩ := info_parts Try.info5
  obtain ⟨w', hrun, r1, r2⟩ := run_make_own (P := Try.prog) w base 27 5 i0 (.int .u8 0) 1 Try.underlying27 hi hz0 hz1 .i64 .i64 n (by rw [hz2]; omega) (by unfold maxLen; omega) hb
  exact ⟨w', hrun, r1, ⟨r2.os, r2.tape, r2.output, r2.size, fun k hk _ => r2.block k hk (by simp)⟩⟩

/-- What Encode hands back. -/
def EncRes (d : Nat) (t : M.T d) (w : World) (e : Ending) (w' : World) : Prop :=
  ∃ v, e = .returned (.tuple #[v, .int .i64 (M.check d t)]) ∧ (M.check d t = 0 → w'.ownsRow w.heap.size 5 1 v (M.enc d t).length (bytes (M.enc d t))) ∧ (M.check d t ≠ 0 → v = .slice none 0 0) ∧ Below w.heap.size w w'

theorem formed_of_check {d : Nat} {t : M.T d} (h : M.check d t = 0) : M.formed d t = true := by
  unfold M.check at h
  split at h
  · assumption
  · omega

set_option maxHeartbeats 2000000 in
theorem encode_ok (d : Nat) (t : M.T d) (v : Value) (w : World) (hr : Rep w.heap.size w d t v) (hh : M.height d t ≤ 1099511627776) (hsz : (M.enc d t).length ≤ 35184372088832) (hck : M.check d t = 0) :
    Calls Try.prog 12 #[v] w (EncRes d t w) := by
  obtain ⟨k, n, s, a, len, cap, rfl⟩ := hr.shape
  have hformed := formed_of_check hck
  have hkw : Below w.heap.size w (w.alloc (.cells #[.int .i64 k, .int .i64 n, .string s, .slice a len cap] 24)) := (Below.refl _ _).alloc (Nat.le_refl _) _
  have hrW := hr.later hkw
  have hbox0 := heap_alloc_new w (.cells #[.int .i64 k, .int .i64 n, .string s, .slice a len cap] 24)
  have hcheck := check_any d t _ _ hrW hh
  rw [hck] at hcheck
  have HC := Lib.hid hcheck; clear hcheck
  go_enter Try.func12, Try.ntmps12
  go_wp2_with (go_at_call 16; refine (HC.out).mono ?_; rintro e w1 ⟨rfl, hb1⟩)
  have hbW : Below w.heap.size w w1 := hkw.trans (hb1.mono hkw.size)
  have hlt : w.heap.size < w1.drew.heap.size := by have := hb1.size; simp at this ⊢; omega
  have hbox : w1.drew.heap[w.heap.size]? = some (.cells #[.int .i64 k, .int .i64 n, .string s, .slice a len cap] 24 (0, 0)) := (hb1.block w.heap.size (by simp)).trans hbox0
  have hbD : Below w.heap.size w w1.drew := hbW.drew
  have hrD : Rep w1.drew.heap.size w1.drew d t (.agg #[.int .i64 k, .int .i64 n, .string s, .slice a len cap]) := hr.later hbD
  have hrB : Rep w.heap.size w1.drew d t (.agg #[.int .i64 k, .int .i64 n, .string s, .slice a len cap]) := hr.kept hbD
  have hK0 : Keeps w.heap.size 5 w1.drew w1.drew := Keeps.refl _ _ _
  obtain ⟨b0, b1, b2, b3⟩ := box_at hK0 hbox
  go_region_held3 (fun w' => w'.cell? ⟨w.heap.size, 0, none⟩ = some (.int .i64 k) ∧ w'.cell? ⟨w.heap.size, 1, none⟩ = some (.int .i64 n) ∧ w'.cell? ⟨w.heap.size, 2, none⟩ = some (.string s) ∧ w'.cell? ⟨w.heap.size, 3, none⟩ = some (.slice a len cap))
    (exact box_at (by assumption) hbox)
    (first
      | (go_at_call 27; refine (size_any d t _ _ hrD hformed (by omega)).mono ?_; rintro e w2 ⟨rfl, hb2⟩; have hK2 : Keeps w.heap.size 5 w1.drew w2 := Below.keeps hb2; obtain ⟨w3, hrun, ho3, hk3⟩ := run_make w2 w.heap.size (M.enc d t).length (by omega) (Nat.le_of_lt (Nat.lt_of_lt_of_le hlt hK2.size)); have hK3 : Keeps w.heap.size 5 w1.drew w3 := hK2.trans hk3)
      | (go_at_call 26; refine (write_any w.heap.size w.heap.size (Nat.le_refl _) d t _ _ 0 [] _ (hrB.kept (hK3.below (Nat.le_of_lt hlt))) hformed ho3 (Nat.le_of_lt (Nat.lt_of_lt_of_le hlt hK3.size)) (by omega)).mono ?_; rintro e w4 ⟨v4, rfl, ho4, hk4⟩; have hK4 : Keeps w.heap.size 5 w1.drew w4 := hK3.trans hk4))
  go_wp2_with fail
  go_ret2
  refine ⟨_, by rw [hck]; rfl, fun _ => ?_, fun h => absurd hck h, hbD.trans (hK4.below (Nat.le_of_lt hlt))⟩
  simpa using ho4

set_option maxHeartbeats 400000 in
theorem encode_no (d : Nat) (t : M.T d) (v : Value) (w : World) (hr : Rep w.heap.size w d t v) (hh : M.height d t ≤ 1099511627776) (hck : M.check d t ≠ 0) :
    Calls Try.prog 12 #[v] w (EncRes d t w) := by
  obtain ⟨k, n, s, a, len, cap, rfl⟩ := hr.shape
  have hkw : Below w.heap.size w (w.alloc (.cells #[.int .i64 k, .int .i64 n, .string s, .slice a len cap] 24)) := (Below.refl _ _).alloc (Nat.le_refl _) _
  have HC := Lib.hid (check_any d t _ _ (hr.later hkw) hh)
  have hne : (M.check d t == 0) = false := by simpa using hck
  have hne2 : (M.check d t != 0) = true := by simpa using hck
  go_enter Try.func12, Try.ntmps12
  go_wp2_with (go_at_call 16; refine (HC.out).mono ?_; rintro e w1 ⟨rfl, hb1⟩)
  go_ret2
  exact ⟨_, rfl, fun h => absurd h hck, fun _ => rfl, hkw.trans (hb1.mono hkw.size)⟩

theorem encode_any (d : Nat) (t : M.T d) (v : Value) (w : World) (hr : Rep w.heap.size w d t v) (hh : M.height d t ≤ 1099511627776) (hsz : (M.enc d t).length ≤ 35184372088832) :
    Calls Try.prog 12 #[v] w (EncRes d t w) := by
  by_cases h : M.check d t = 0
  · exact encode_ok d t v w hr hh hsz h
  · exact encode_no d t v w hr hh h

/-- What Size hands back. -/
def SizeRes (d : Nat) (t : M.T d) : Value := .tuple #[.int .i64 (if M.check d t = 0 then ((M.enc d t).length : Int) else 0), .int .i64 (M.check d t)]

set_option maxHeartbeats 400000 in
theorem sizeTop_any (d : Nat) (t : M.T d) (v : Value) (w : World) (hr : Rep w.heap.size w d t v) (hh : M.height d t ≤ 1099511627776) (hsz : (M.enc d t).length ≤ 35184372088832) :
    Calls Try.prog 14 #[v] w fun e w' => e = .returned (SizeRes d t) ∧ Below w.heap.size w w' := by
  obtain ⟨k, n, s, a, len, cap, rfl⟩ := hr.shape
  have hkw : Below w.heap.size w (w.alloc (.cells #[.int .i64 k, .int .i64 n, .string s, .slice a len cap] 24)) := (Below.refl _ _).alloc (Nat.le_refl _) _
  have hbox0 := heap_alloc_new w (.cells #[.int .i64 k, .int .i64 n, .string s, .slice a len cap] 24)
  have HC := Lib.hid (check_any d t _ _ (hr.later hkw) hh)
  by_cases hck : M.check d t = 0
  · have hformed := formed_of_check hck
    have hres : SizeRes d t = .tuple #[.int .i64 (M.enc d t).length, .int .i64 0] := by unfold SizeRes; rw [if_pos hck, hck]
    have HC2 := HC.out; rw [hck] at HC2
    have HC3 := Lib.hid HC2; have HR := Lib.hid hres; have HK := Lib.hid hck; clear HC2 hres hck
    go_enter Try.func14, Try.ntmps14
    go_wp2_with (first
      | (go_at_call 16; refine (HC3.out).mono ?_; rintro e w1 ⟨rfl, hb1⟩; obtain ⟨b0, b1, b2, b3⟩ := box_at (base := 0) (Below.keeps hb1) hbox0)
      | (go_at_call 27; refine (size_any d t _ _ ((hr.later hkw).later hb1) hformed (by omega)).mono ?_; rintro e w2 ⟨rfl, hb2⟩))
    go_ret2
    exact ⟨by rw [HR.out]; rfl, (hkw.trans (hb1.mono hkw.size)).trans (hb2.mono (Nat.le_trans hkw.size hb1.size))⟩
  · have hne : (M.check d t == 0) = false := by simpa using hck
    have hne2 : (M.check d t != 0) = true := by simpa using hck
    have hres : SizeRes d t = .tuple #[.int .i64 0, .int .i64 (M.check d t)] := by unfold SizeRes; rw [if_neg hck]
    have HR := Lib.hid hres; clear hres
    go_enter Try.func14, Try.ntmps14
    go_wp2_with (go_at_call 16; refine (HC.out).mono ?_; rintro e w1 ⟨rfl, hb1⟩)
    go_ret2
    exact ⟨by rw [HR.out]; rfl, hkw.trans (hb1.mono hkw.size)⟩

end Go.Proofs.Ytmhchpdogjbpmaa
