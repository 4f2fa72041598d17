/- Contract of the reference's Same. -/
import Derived.Test.YtmhchpdogjbpmaaLits
namespace Go.Proofs.Ytmhchpdogjbpmaa
open Go.RowKit

/-- What the two parameters' boxes hold, in every world behind. -/
def Boxes2 (B : Nat) (w : World) (v0 v1 v2 v3 u0 u1 u2 u3 : Value) : Prop :=
  w.heap[B]? = some (.cells #[v0, v1, v2, v3] 24 (0, 0)) ∧ w.heap[B + 1]? = some (.cells #[u0, u1, u2, u3] 24 (0, 0))

theorem boxes2_new (w : World) (v0 v1 v2 v3 u0 u1 u2 u3 : Value) : Boxes2 w.heap.size ((w.alloc (.cells #[v0, v1, v2, v3] 24)).alloc (.cells #[u0, u1, u2, u3] 24)) v0 v1 v2 v3 u0 u1 u2 u3 := by
  refine ⟨?_, ?_⟩
  · rw [Below.heap_alloc _ _ _ (by simp)]; exact heap_alloc_new w _
  · have := heap_alloc_new (w.alloc (.cells #[v0, v1, v2, v3] 24)) (.cells #[u0, u1, u2, u3] 24)
    simpa using this

theorem Boxes2.kept {B : Nat} {w w' : World} {v0 v1 v2 v3 u0 u1 u2 u3 : Value} (h : Boxes2 B w v0 v1 v2 v3 u0 u1 u2 u3) (hb : Below w.heap.size w w') : Boxes2 B w' v0 v1 v2 v3 u0 u1 u2 u3 :=
  ⟨(hb.block B (Array.getElem?_eq_some_iff.1 h.1).1).trans h.1, (hb.block (B + 1) (Array.getElem?_eq_some_iff.1 h.2).1).trans h.2⟩

set_option maxHeartbeats 2000000 in
theorem rsame_list (d e : Nat) (k n : Int) (s s' : ByteArray) (hss : s.toList = s'.toList) (l : List (M.T d)) (l' : List (M.T e)) (a a' : Option Addr) (cap cap' : Nat) (w : World) (hlen : l.length ≤ 70368744177664) (hll : l.length = l'.length)
    (hl : Elems w.heap.size w d a l) (hl' : Elems w.heap.size w e a' l')
    (ih : ∀ (x : M.T d) (y : M.T e) (v v' : Value) (w : World), Rep w.heap.size w d x v → Rep w.heap.size w e y v' → Calls Try.prog 20 #[v, v'] w fun r w' => r = .returned (.bool (M.same d x e y)) ∧ Below w.heap.size w w') :
    Calls Try.prog 20 #[.agg #[.int .i64 k, .int .i64 n, .string s, .slice a l.length cap], .agg #[.int .i64 k, .int .i64 n, .string s', .slice a' l'.length cap']] w fun r w' => r = .returned (.bool (M.all2 (fun x y => M.same d x e y) l l')) ∧ Below w.heap.size w w' := by
  have HALL := Lib.hid (M.all2_iff (fun x y => M.same d x e y) l l')
  have hb1 : ((l.length : Int) == (l'.length : Int)) = true := by simp [hll]
  have hb2 : ((l.length : Int) != (l'.length : Int)) = false := by simp [hll]
  have hs1 : (s.toList == s'.toList) = true := by simp [hss]
  have hs2 : (s.toList != s'.toList) = false := by simp [hss]
  clear hss
  have hle : l.length ≤ l'.length := by omega
  have hge : l'.length ≤ l.length := by omega
  have HLL := Lib.hid hll
  clear hll
  have HI := Lib.hid ih; clear ih
  have hbx0 := boxes2_new w (.int .i64 k) (.int .i64 n) (.string s) (.slice a l.length cap) (.int .i64 k) (.int .i64 n) (.string s') (.slice a' l'.length cap')
  have hbw : Below w.heap.size w ((w.alloc (.cells #[.int .i64 k, .int .i64 n, .string s, .slice a l.length cap] 24)).alloc (.cells #[.int .i64 k, .int .i64 n, .string s', .slice a' l'.length cap'] 24)) := ((Below.refl _ _).alloc (Nat.le_refl _) _).alloc (by simp) _
  go_enter Try.func20, Try.ntmps20
  go_wp2_with fail
  generalize (w.alloc (.cells #[.int .i64 k, .int .i64 n, .string s, .slice a l.length cap] 24)).alloc (.cells #[.int .i64 k, .int .i64 n, .string s', .slice a' l'.length cap'] 24) = WA at *
  go_loopw [5] (fun ii wr => ∃ j : Nat, j ≤ l.length ∧ ii = .int .i64 j ∧ Hid (∀ i (h : i < l.length) (h' : i < l'.length), i < j → M.same d l[i] e l'[i] = true) ∧ Boxes2 w.heap.size wr (.int .i64 k) (.int .i64 n) (.string s) (.slice a l.length cap) (.int .i64 k) (.int .i64 n) (.string s') (.slice a' l'.length cap') ∧ Below w.heap.size w wr)
    (fun ii _ => l.length - (intOf ii).toNat)
  case atStart => exact ⟨0, Nat.zero_le _, rfl, Lib.hid (fun i _ _ h => by omega), hbx0, hbw⟩
  case round =>
    obtain ⟨j, hj, rfl, HP, hbx, hbr⟩ := hrel
    obtain ⟨⟨b0, b1, b2, b3⟩, gg⟩ := cells4 hbx.1
    obtain ⟨⟨d0, d1, d2, d3⟩, gg2⟩ := cells4 hbx.2
    clear gg gg2 b0 b1 b2 d0 d1 d2 hbx0 hbw
    by_cases hlt : j < l.length
    · have hlt' : j < l'.length := by omega
      obtain ⟨b, off, kx, nx, sx, ax, lx, px, rfl, hbB, e0, e1, e2, e3, hrep⟩ := hl.at hbr hlt
      obtain ⟨b', off', kx', nx', sx', ax', lx', px', rfl, hbB', e0', e1', e2', e3', hrep'⟩ := hl'.at hbr hlt'
      have hcall : ∀ W, Below wr.heap.size wr W → Calls Try.prog 20 #[.agg #[.int .i64 kx, .int .i64 nx, .string sx, .slice ax lx px], .agg #[.int .i64 kx', .int .i64 nx', .string sx', .slice ax' lx' px']] W fun r w' => r = .returned (.bool (M.same d l[j] e l'[j])) ∧ Below W.heap.size W w' :=
        fun W hW => HI.out _ _ _ _ W ((hrep.mono hbr.size).later hW) ((hrep'.mono hbr.size).later hW)
      have HBX := Lib.hid hbx
      clear hbx hrep hrep'
      by_cases hsm : M.same d l[j] e l'[j] = true
      · rw [hsm] at hcall
        have HC := Lib.hid hcall; have HS := Lib.hid hsm; clear hcall hsm
        go_wp2_with fail
        have k3 := cell_regrown b3; have m3 := cell_regrown d3
        have x0 := cell_regrown e0; have x1 := cell_regrown e1; have x2 := cell_regrown e2; have x3 := cell_regrown e3
        have y0 := cell_regrown e0'; have y1 := cell_regrown e1'; have y2 := cell_regrown e2'; have y3 := cell_regrown e3'
        clear e0 e1 e2 e3 e0' e1' e2' e3' b3 d3
        refine wp_region_qb (by kernel_rfl) ?_
        repeat (go_big_quiet_step (exact regrown_call (fun W hW => HC.out W hW) _ _))
        refine wpQuiet_nil ?_
        intro W2 hb2
        have hbx2 := HBX.out.kept hb2
        have hbr2 := hbr.trans (hb2.mono hbr.size)
        clear k3 m3 x0 x1 x2 x3 y0 y1 y2 y3 hb2
        go_wp2_with fail
        go_roundw
        case rel => exact ⟨j + 1, by omega, by go_num, Lib.hid (fun i h h' hi => by
          rcases Nat.lt_or_ge i j with hi' | hi'
          · exact HP.out i h h' hi'
          · obtain rfl : i = j := by omega
            exact HS.out), hbx2, hbr2⟩
        case measure => simp [intOf]; omega
      · have hsf : M.same d l[j] e l'[j] = false := by simpa using hsm
        have hno : M.all2 (fun x y => M.same d x e y) l l' = false := by
          rw [Bool.eq_false_iff]; intro h; have := (HALL.out.1 h).2 j hlt hlt'; simp [hsf] at this
        rw [hsf] at hcall
        have HC := Lib.hid hcall; have HN := Lib.hid hno; clear hcall hsm hsf hno
        go_wp2_with fail
        have k3 := cell_regrown b3; have m3 := cell_regrown d3
        have x0 := cell_regrown e0; have x1 := cell_regrown e1; have x2 := cell_regrown e2; have x3 := cell_regrown e3
        have y0 := cell_regrown e0'; have y1 := cell_regrown e1'; have y2 := cell_regrown e2'; have y3 := cell_regrown e3'
        clear e0 e1 e2 e3 e0' e1' e2' e3' b3 d3
        refine wp_region_qb (by kernel_rfl) ?_
        repeat (go_big_quiet_step (exact regrown_call (fun W hW => HC.out W hW) _ _))
        refine wpQuiet_nil ?_
        intro W2 hb2
        have hbr2 := hbr.trans (hb2.mono hbr.size)
        clear k3 m3 x0 x1 x2 x3 y0 y1 y2 y3 hb2
        go_wp2_with fail
        go_ret
        exact ⟨by rw [HN.out]; rfl, hbr2⟩
    · obtain rfl : j = l.length := by omega
      have hyes : M.all2 (fun x y => M.same d x e y) l l' = true := HALL.out.2 ⟨HLL.out, fun i h h' => HP.out i h h' h⟩
      have HY := Lib.hid hyes; clear hyes
      go_wp2_with fail
      go_ret
      exact ⟨by rw [HY.out]; rfl, hbr⟩

set_option maxHeartbeats 1000000 in
theorem rsame_no (k k' n n' : Int) (s s' : ByteArray) (len len' : Nat) (a a' : Option Addr) (cap cap' : Nat) (w : World) (_ : len ≤ 70368744177664) (_ : len' ≤ 70368744177664)
    (h : (k == k' && n == n' && s.toList == s'.toList && len == len') = false) :
    Calls Try.prog 20 #[.agg #[.int .i64 k, .int .i64 n, .string s, .slice a len cap], .agg #[.int .i64 k', .int .i64 n', .string s', .slice a' len' cap']] w fun r w' => r = .returned (.bool false) ∧ Below w.heap.size w w' := by
  have hbw : Below w.heap.size w ((w.alloc (.cells #[.int .i64 k, .int .i64 n, .string s, .slice a len cap] 24)).alloc (.cells #[.int .i64 k', .int .i64 n', .string s', .slice a' len' cap'] 24)) := ((Below.refl _ _).alloc (Nat.le_refl _) _).alloc (by simp) _
  by_cases e1 : k = k'
  · subst e1
    by_cases e2 : n = n'
    · subst e2
      by_cases e3 : s.toList = s'.toList
      · have e4 : ¬ len = len' := by
          intro e4; subst e4; simp [e3] at h
        have q1 : ((len : Int) == (len' : Int)) = false := by simp; omega
        have q2 : ((len : Int) != (len' : Int)) = true := by simp; omega
        have q3 : (s.toList == s'.toList) = true := by simp [e3]
        have q4 : (s.toList != s'.toList) = false := by simp [e3]
        clear h e3 e4
        go_enter Try.func20, Try.ntmps20
        go_wp2_with fail
        go_ret
        exact ⟨rfl, hbw⟩
      · have q3 : (s.toList == s'.toList) = false := by simpa using e3
        have q4 : (s.toList != s'.toList) = true := by simpa using e3
        clear h e3
        go_enter Try.func20, Try.ntmps20
        go_wp2_with fail
        go_ret
        exact ⟨rfl, hbw⟩
    · have q1 : (n == n') = false := by simpa using e2
      have q2 : (n != n') = true := by simpa using e2
      clear h e2
      go_enter Try.func20, Try.ntmps20
      go_wp2_with fail
      go_ret
      exact ⟨rfl, hbw⟩
  · have q1 : (k == k') = false := by simpa using e1
    have q2 : (k != k') = true := by simpa using e1
    clear h e1
    go_enter Try.func20, Try.ntmps20
    go_wp2_with fail
    go_ret
    exact ⟨rfl, hbw⟩

/-- The reference's Same, at every two values. -/
theorem rsame_any : ∀ (d : Nat) (x : M.T d) (e : Nat) (y : M.T e) (v v' : Value) (w : World), Rep w.heap.size w d x v → Rep w.heap.size w e y v' →
    Calls Try.prog 20 #[v, v'] w fun r w' => r = .returned (.bool (M.same d x e y)) ∧ Below w.heap.size w w'
  | 0, _, _, _, _, _, _, h, _ => h.elim
  | _ + 1, _, 0, _, _, _, _, _, h => h.elim
  | d + 1, (k, n, s, l), e + 1, (k', n', s', l'), v, v', w, ⟨h1, h2, h3, h4, a, cap, hv, hl⟩, ⟨h1', h2', h3', h4', a', cap', hv', hl'⟩ => by
    subst hv hv'
    have hsame : M.same (d + 1) (k, n, s, l) (e + 1) (k', n', s', l') = (k == k' && n == n' && s.toList == s'.toList && M.all2 (fun x y => M.same d x e y) l l') := rfl
    cases hc : (k == k' && n == n' && s.toList == s'.toList && l.length == l'.length) with
    | true =>
      simp only [Bool.and_eq_true, beq_iff_eq] at hc
      obtain ⟨⟨⟨rfl, rfl⟩, hs⟩, hll⟩ := hc
      have := rsame_list d e k n s s' hs l l' a a' cap cap' w h4 hll hl hl' (fun x y v v' w hx hy => rsame_any d x e y v v' w hx hy)
      rw [hsame, hs]; simpa using this
    | false =>
      have hno : M.same (d + 1) (k, n, s, l) (e + 1) (k', n', s', l') = false := by
        rw [hsame, Bool.eq_false_iff]
        intro h
        simp only [Bool.and_eq_true] at h
        have hll := ((M.all2_iff _ _ _).1 h.2).1
        rw [h.1.1.1, h.1.1.2, h.1.2, hll] at hc
        simp at hc
      rw [hno]
      exact rsame_no k k' n n' s s' l.length l'.length a a' cap cap' w h4 h4' hc

end Go.Proofs.Ytmhchpdogjbpmaa
