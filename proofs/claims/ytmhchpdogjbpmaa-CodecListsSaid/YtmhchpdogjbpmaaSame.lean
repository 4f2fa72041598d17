/- Contract of codec's Same. -/
import Derived.Test.YtmhchpdogjbpmaaSize
namespace Go.Proofs.Ytmhchpdogjbpmaa
open Go.RowKit

set_option maxHeartbeats 1000000 in
theorem equalFunc_any (d e : Nat) (l : List (M.T d)) (l' : List (M.T e)) (a a' : Option Addr) (cap cap' : Nat) (w : World) (hlen : l.length ≤ 70368744177664) (_ : l'.length ≤ 70368744177664)
    (hl : Elems w.heap.size w d a l) (hl' : Elems w.heap.size w e a' l')
    (ih : ∀ (x : M.T d) (y : M.T e) (v v' : Value) (w : World), Rep w.heap.size w d x v → Rep w.heap.size w e y v' → Calls Try.prog 21 #[v, v'] w fun r w' => r = .returned (.bool (M.same d x e y)) ∧ Below w.heap.size w w') :
    Calls Try.prog 36 #[.slice a l.length cap, .slice a' l'.length cap', .func (.func 21) #[] #[]] w fun r w' => r = .returned (.bool (M.all2 (fun x y => M.same d x e y) l l')) ∧ Below w.heap.size w w' := by
  have hall := M.all2_iff (fun x y => M.same d x e y) l l'
  by_cases hll : l.length = l'.length
  · have hb : ((l.length : Int) == (l'.length : Int)) = true := by simp [hll]
    have hb2 : ((l.length : Int) != (l'.length : Int)) = false := by simp [hll]
    have HALL := Lib.hid hall; have HLL := Lib.hid hll; clear hall
    have hle : l.length ≤ l'.length := by omega
    have hge : l'.length ≤ l.length := by omega
    clear hll
    go_enter Try.func36, Try.ntmps36
    go_wp2_with fail
    go_loopw [17] (fun ii wr => ∃ j : Nat, j ≤ l.length ∧ ii = .int .i64 j ∧ Hid (∀ i (h : i < l.length) (h' : i < l'.length), i < j → M.same d l[i] e l'[i] = true) ∧ Below w.heap.size w wr)
      (fun ii _ => l.length - (intOf ii).toNat)
    case atStart => exact ⟨0, Nat.zero_le _, rfl, Lib.hid (fun i _ _ h => by omega), Below.refl _ _⟩
    case round =>
      obtain ⟨j, hj, rfl, HP, hbr⟩ := hrel
      by_cases hlt : j < l.length
      · obtain ⟨b, off, kx, nx, sx, ax, lx, px, rfl, hbB, e0, e1, e2, e3, hrep⟩ := hl.at hbr hlt
        have hlt' : j < l'.length := by omega
        obtain ⟨b', off', kx', nx', sx', ax', lx', px', rfl, hbB', e0', e1', e2', e3', hrep'⟩ := hl'.at hbr hlt'
        have hb1 : Below wr.heap.size wr ((wr.alloc (.cells #[.int .i64 kx, .int .i64 nx, .string sx, .slice ax lx px] 24)).alloc (.cells #[.int .i64 kx', .int .i64 nx', .string sx', .slice ax' lx' px'] 24)) := ((Below.refl _ _).alloc (Nat.le_refl _) _).alloc (by simp) _
        have hba : Below wr.heap.size wr (wr.alloc (.cells #[.int .i64 kx, .int .i64 nx, .string sx, .slice ax lx px] 24)) := (Below.refl _ _).alloc (Nat.le_refl _) _
        have hbr' : b' < wr.heap.size := Nat.lt_of_lt_of_le hbB' hbr.size
        have f0 := (hba.cell (p := ⟨b', off' + j * 4, none⟩) hbr').trans e0'
        have f1 := (hba.cell (p := ⟨b', off' + j * 4 + 1, none⟩) hbr').trans e1'
        have f2 := (hba.cell (p := ⟨b', off' + j * 4 + 2, none⟩) hbr').trans e2'
        have f3 := (hba.cell (p := ⟨b', off' + j * 4 + 3, none⟩) hbr').trans e3'
        clear hba
        have hc := ih l[j] l'[j] _ _ _ ((hrep.mono hbr.size).later hb1) ((hrep'.mono hbr.size).later hb1)
        by_cases hsm : M.same d l[j] e l'[j] = true
        · rw [hsm] at hc
          have HC := Lib.hid hc; have HS := Lib.hid hsm; clear hc hsm
          go_wp2_with (go_at_call 21; refine (HC.out).mono ?_; rintro e w1 ⟨rfl, hb2⟩)
          go_roundw
          case rel => exact ⟨j + 1, by omega, by go_num, Lib.hid (fun i h h' hi => by
            rcases Nat.lt_or_ge i j with hi' | hi'
            · exact HP.out i h h' hi'
            · obtain rfl : i = j := by omega
              exact HS.out), hbr.trans ((hb1.trans (hb2.mono hb1.size)).mono hbr.size)⟩
          case measure => simp [intOf]; omega
        · have hsf : M.same d l[j] e l'[j] = false := by simpa using hsm
          have hno : M.all2 (fun x y => M.same d x e y) l l' = false := by
            rw [Bool.eq_false_iff]; intro h; have := (HALL.out.1 h).2 j hlt hlt'; simp [hsf] at this
          rw [hsf] at hc
          have HC := Lib.hid hc; have HN := Lib.hid hno; clear hc hsm hsf hno
          go_wp2_with (go_at_call 21; refine (HC.out).mono ?_; rintro e w1 ⟨rfl, hb2⟩)
          go_ret
          exact ⟨by rw [HN.out]; rfl, hbr.trans ((hb1.trans (hb2.mono hb1.size)).mono hbr.size)⟩
      · obtain rfl : j = l.length := by omega
        have hyes : M.all2 (fun x y => M.same d x e y) l l' = true := HALL.out.2 ⟨HLL.out, fun i h h' => HP.out i h h' h⟩
        have HY := Lib.hid hyes; clear hyes
        go_wp2_with fail
        go_ret
        exact ⟨by rw [HY.out]; rfl, hbr⟩
  · have hb : ((l.length : Int) == (l'.length : Int)) = false := by simp; omega
    have hb2 : ((l.length : Int) != (l'.length : Int)) = true := by simp; omega
    have hno : M.all2 (fun x y => M.same d x e y) l l' = false := by
      rw [Bool.eq_false_iff]; intro h; exact hll (hall.1 h).1
    have HN := Lib.hid hno; clear hno hall
    go_enter Try.func36, Try.ntmps36
    go_wp2_with fail
    go_ret
    exact ⟨by rw [HN.out]; rfl, Below.refl _ _⟩

/-- Same, at every two values. -/
theorem same_any : ∀ (d : Nat) (x : M.T d) (e : Nat) (y : M.T e) (v v' : Value) (w : World), Rep w.heap.size w d x v → Rep w.heap.size w e y v' →
    Calls Try.prog 21 #[v, v'] w fun r w' => r = .returned (.bool (M.same d x e y)) ∧ Below w.heap.size w w'
  | 0, _, _, _, _, _, _, h, _ => h.elim
  | _ + 1, _, 0, _, _, _, _, _, h => h.elim
  | d + 1, (k, n, s, l), e + 1, (k', n', s', l'), v, v', w, ⟨h1, h2, h3, h4, a, cap, hv, hl⟩, ⟨h1', h2', h3', h4', a', cap', hv', hl'⟩ => by
    have hrep : Rep w.heap.size w (d + 1) (k, n, s, l) v := ⟨h1, h2, h3, h4, a, cap, hv, hl⟩
    have hrep' : Rep w.heap.size w (e + 1) (k', n', s', l') v' := ⟨h1', h2', h3', h4', a', cap', hv', hl'⟩
    subst hv hv'
    have hb1 : Below w.heap.size w ((w.alloc (.cells #[.int .i64 k, .int .i64 n, .string s, .slice a l.length cap] 24)).alloc (.cells #[.int .i64 k', .int .i64 n', .string s', .slice a' l'.length cap'] 24)) := ((Below.refl _ _).alloc (Nat.le_refl _) _).alloc (by simp) _
    have hl2 := (hrep.later hb1).elems
    have hl2' := (hrep'.later hb1).elems
    have hc := equalFunc_any d e l l' a a' cap cap' _ h4 h4' hl2 hl2' (fun x y v v' w hx hy => same_any d x e y v v' w hx hy)
    have hsame : M.same (d + 1) (k, n, s, l) (e + 1) (k', n', s', l') = (k == k' && n == n' && s.toList == s'.toList && M.all2 (fun x y => M.same d x e y) l l') := rfl
    clear hl hl' hl2 hl2' hrep hrep'
    generalize hr : M.same (d + 1) (k, n, s, l) (e + 1) (k', n', s', l') = r at *
    generalize hr2 : M.all2 (fun x y => M.same d x e y) l l' = r2 at *
    clear hr hr2
    have HC := Lib.hid hc; clear hc
    by_cases e1 : (k == k') = true
    · by_cases e2 : (n == n') = true
      · by_cases e3 : (s.toList == s'.toList) = true
        · rw [e1, e2, e3] at hsame
          simp only [Bool.true_and] at hsame
          subst hsame
          go_enter Try.func21, Try.ntmps21
          go_wp2_with (go_at_call 36; refine (HC.out).mono ?_; rintro e w1 ⟨rfl, hb2⟩)
          go_ret
          exact ⟨rfl, hb1.trans (hb2.mono hb1.size)⟩
        · have e3' : (s.toList == s'.toList) = false := by simpa using e3
          rw [e1, e2, e3'] at hsame
          simp only [Bool.and_false, Bool.false_and] at hsame
          subst hsame
          clear HC e3
          go_enter Try.func21, Try.ntmps21
          go_wp2_with fail
          go_ret
          exact ⟨rfl, hb1⟩
      · have e2' : (n == n') = false := by simpa using e2
        rw [e1, e2'] at hsame
        simp only [Bool.and_false, Bool.false_and] at hsame
        subst hsame
        clear HC e2
        go_enter Try.func21, Try.ntmps21
        go_wp2_with fail
        go_ret
        exact ⟨rfl, hb1⟩
    · have e1' : (k == k') = false := by simpa using e1
      rw [e1'] at hsame
      simp only [Bool.false_and] at hsame
      subst hsame
      clear HC e1
      go_enter Try.func21, Try.ntmps21
      go_wp2_with fail
      go_ret
      exact ⟨rfl, hb1⟩

end Go.Proofs.Ytmhchpdogjbpmaa
