/- Contracts of codec's Check, size and Size. -/
import Derived.Test.YtmhchpdogjbpmaaDepth
namespace Go.Proofs.Ytmhchpdogjbpmaa
open Go.RowKit

set_option maxHeartbeats 400000 in
theorem check_any (d : Nat) (t : M.T d) (v : Value) (w : World) (hr : Rep w.heap.size w d t v) (hh : M.height d t ≤ 1099511627776) :
    Calls Try.prog 16 #[v] w fun e w' => e = .returned (.int .i64 (M.check d t)) ∧ Below w.heap.size w w' := by
  obtain ⟨k, n, s, a, len, cap, rfl⟩ := hr.shape
  have hc := depth_any d t _ (w.alloc (.cells #[.int .i64 k, .int .i64 n, .string s, .slice a len cap] 24)) (hr.later ((Below.refl _ _).alloc (Nat.le_refl _) _)) hh
  have hd := M.depth_le d t
  have HC := Lib.hid hc; clear hc
  by_cases hf : M.formed d t = true
  · by_cases h16 : 16 < M.depth d t
    all_goals
      have HD : DepthRes d t = .tuple #[.int .i64 (M.depth d t), .bool true] := depthRes_yes hf rfl
      have HR : M.check d t = if 16 < M.depth d t then 2 else 0 := by unfold M.check; simp [hf]
      have HC2 := HC.out; rw [HD] at HC2
      have HC3 := Lib.hid HC2; have HR2 := Lib.hid HR; clear HC2 HD HR hf
      go_enter Try.func16, Try.ntmps16
      go_wp2_with (go_at_call 29; refine (HC3.out).mono ?_; rintro e w1 ⟨rfl, hb1⟩)
      go_ret
      exact ⟨ret_int (by rw [HR2.out]; simp [h16]), ((Below.refl _ _).alloc (Nat.le_refl _) _).trans (hb1.mono (by simp))⟩
  · have hf' : M.formed d t = false := by simpa using hf
    have HD : DepthRes d t = .tuple #[.int .i64 0, .bool false] := depthRes_no hf'
    have HR : M.check d t = 1 := by unfold M.check; simp [hf']
    have HC2 := HC.out; rw [HD] at HC2
    have HC3 := Lib.hid HC2; have HR2 := Lib.hid HR; clear HC2 HD HR hf hf'
    go_enter Try.func16, Try.ntmps16
    go_wp2_with (go_at_call 29; refine (HC3.out).mono ?_; rintro e w1 ⟨rfl, hb1⟩)
    go_ret
    exact ⟨ret_int (by rw [HR2.out]), ((Below.refl _ _).alloc (Nat.le_refl _) _).trans (hb1.mono (by simp))⟩

set_option maxHeartbeats 400000 in
theorem sizeInt_any (k n : Int) (s : ByteArray) (a : Option Addr) (len cap : Nat) (w : World) (h1 : -9223372036854775808 ≤ n) (h2 : n ≤ 9223372036854775807) :
    Calls Try.prog 48 #[.agg #[.int .i64 k, .int .i64 n, .string s, .slice a len cap]] w fun e w' => e = .returned (.int .i64 (M.num (M.unsig n).toNat).length) ∧ Below w.heap.size w w' := by
  have hu := M.unsig_bd n h1 h2
  go_enter Try.func48, Try.ntmps48
  go_wp2_with (first
    | (go_at_call 57; refine (unsigned_any _ _ h1 h2).mono ?_; rintro e w1 ⟨rfl, rfl⟩)
    | (go_at_call 56; refine (sizeNumeral_any _ _ hu.1 hu.2).mono ?_; rintro e w1 ⟨rfl, rfl⟩))
  go_ret
  exact ⟨rfl, (Below.refl _ _).alloc (Nat.le_refl _) _⟩

theorem quiet_below {f : FuncId} {args : Array Value} {w : World} {v : Value} (h : Calls Try.prog f args w fun e w' => e = .returned v ∧ w = w') : Calls Try.prog f args w fun e w' => e = .returned v ∧ Below w.heap.size w w' :=
  h.mono fun _ _ ⟨he, hw⟩ => ⟨he, hw ▸ Below.refl _ _⟩

set_option maxHeartbeats 400000 in
theorem sizeText_any (k n : Int) (s : ByteArray) (a : Option Addr) (len cap : Nat) (w : World) (hs : s.size ≤ 140737488351232) :
    Calls Try.prog 51 #[.agg #[.int .i64 k, .int .i64 n, .string s, .slice a len cap]] w fun e w' => e = .returned (.int .i64 ((M.num s.size).length + s.size : Nat)) ∧ Below w.heap.size w w' := by
  obtain ⟨b0, b1, b2, b3⟩ := box4 w (.int .i64 k) (.int .i64 n) (.string s) (.slice a len cap) 24
  have hl := (M.num_len s.size (by omega)).2
  go_enter Try.func51, Try.ntmps51
  go_wp2_with fail
  have hbel : Below w.heap.size w (w.alloc (.cells #[.int .i64 k, .int .i64 n, .string s, .slice a len cap] 24)) := (Below.refl _ _).alloc (Nat.le_refl _) _
  generalize hW : w.alloc (.cells #[.int .i64 k, .int .i64 n, .string s, .slice a len cap] 24) = W at *
  clear hW
  have k2 := cell_regrown b2
  refine wp_region_qb (by kernel_rfl) ?_
  repeat (go_big_quiet_step (exact regrown_call (fun W _ => quiet_below (sizeNumeral_any _ W (by omega) (by omega))) _ _))
  refine wpQuiet_nil ?_
  intro W2 hb2
  go_wp2_with fail
  go_ret
  exact ⟨ret_int (by simp), hbel.trans (hb2.mono hbel.size)⟩

/-- The cells of a list's elements, in every world behind. -/
def Elems (B : Nat) (w : World) (d : Nat) (a : Option Addr) (l : List (M.T d)) : Prop :=
  l = [] ∨ ∃ b off, a = some ⟨b, off, none⟩ ∧ b < B ∧ ∀ i x, l[i]? = some x → ∃ c0 c1 c2 c3,
    w.cell? ⟨b, off + i * 4, none⟩ = some c0 ∧ w.cell? ⟨b, off + i * 4 + 1, none⟩ = some c1 ∧ w.cell? ⟨b, off + i * 4 + 2, none⟩ = some c2 ∧ w.cell? ⟨b, off + i * 4 + 3, none⟩ = some c3 ∧
    Rep B w d x (.agg #[c0, c1, c2, c3])

theorem Rep.elems {B : Nat} {w : World} {d : Nat} {k n k' n' : Int} {s s' : ByteArray} {l : List (M.T d)} {a : Option Addr} {len cap : Nat} (h : Rep B w (d + 1) (k, n, s, l) (.agg #[.int .i64 k', .int .i64 n', .string s', .slice a len cap])) : Elems B w d a l := by
  obtain ⟨_, _, _, _, a1, cap1, hv1, hl1⟩ := h
  simp only [Value.agg.injEq, Array.mk.injEq, List.cons.injEq, and_true, Value.slice.injEq] at hv1
  obtain ⟨_, _, _, rfl, _, _⟩ := hv1
  exact hl1

/-- One element, read in a world behind. -/
theorem Elems.at {B : Nat} {w wr : World} {d : Nat} {a : Option Addr} {l : List (M.T d)} (h : Elems B w d a l) (hb : Below B w wr) {j : Nat} (hj : j < l.length) :
    ∃ b off k n s ax lx px, a = some ⟨b, off, none⟩ ∧ b < B ∧ wr.cell? ⟨b, off + j * 4, none⟩ = some (.int .i64 k) ∧ wr.cell? ⟨b, off + j * 4 + 1, none⟩ = some (.int .i64 n) ∧ wr.cell? ⟨b, off + j * 4 + 2, none⟩ = some (.string s) ∧
      wr.cell? ⟨b, off + j * 4 + 3, none⟩ = some (.slice ax lx px) ∧ Rep B wr d l[j] (.agg #[.int .i64 k, .int .i64 n, .string s, .slice ax lx px]) := by
  rcases h with rfl | ⟨b, off, rfl, hbB, hcs⟩
  · simp at hj
  obtain ⟨c0, c1, c2, c3, e0, e1, e2, e3, hrep⟩ := hcs j l[j] (by simp [hj])
  obtain ⟨k, n, s, ax, lx, px, hx⟩ := hrep.shape
  simp only [Value.agg.injEq, Array.mk.injEq, List.cons.injEq, and_true] at hx
  obtain ⟨rfl, rfl, rfl, rfl⟩ := hx
  exact ⟨b, off, k, n, s, ax, lx, px, rfl, hbB, (hb.cell hbB).trans e0, (hb.cell hbB).trans e1, (hb.cell hbB).trans e2, (hb.cell hbB).trans e3, hrep.kept hb⟩

set_option maxHeartbeats 1000000 in
theorem sizeList_any (d : Nat) (k n : Int) (s : ByteArray) (l : List (M.T d)) (a : Option Addr) (cap : Nat) (w : World) (hlen : l.length ≤ 70368744177664)
    (hl : Elems w.heap.size w d a l) (hsz : (l.map (M.enc d)).flatten.length ≤ 70368744177664)
    (ih : ∀ (x : M.T d), x ∈ l → ∀ (v : Value) (w : World), Rep w.heap.size w d x v → Calls Try.prog 27 #[v] w fun e w' => e = .returned (.int .i64 (M.enc d x).length) ∧ Below w.heap.size w w') :
    Calls Try.prog 54 #[.agg #[.int .i64 k, .int .i64 n, .string s, .slice a l.length cap]] w fun e w' => e = .returned (.int .i64 ((M.num l.length).length + (l.map (M.enc d)).flatten.length : Nat)) ∧ Below w.heap.size w w' := by
  have hnl := (M.num_len l.length (by omega)).2
  go_enter Try.func54, Try.ntmps54
  go_wp2_with (go_at_call 56; refine (sizeNumeral_any _ _ (by omega) (by omega)).mono ?_; rintro e w1 ⟨rfl, rfl⟩)
  go_loopw [3, 14] (fun nn ii wr => ∃ j : Nat, j ≤ l.length ∧ ii = .int .i64 j ∧ nn = .int .i64 ((M.num l.length).length + ((l.take j).map (M.enc d)).flatten.length : Nat) ∧ Below w.heap.size w wr)
    (fun _ ii _ => l.length - (intOf ii).toNat)
  case atStart => exact ⟨0, Nat.zero_le _, rfl, by simp, (Below.refl _ _).alloc (Nat.le_refl _) _⟩
  case round =>
    obtain ⟨j, hj, rfl, rfl, hbr⟩ := hrel
    have hle := M.flat_take_le (M.enc d) l j
    by_cases hlt : j < l.length
    · obtain ⟨b, off, kx, nx, sx, ax, lx, px, rfl, hb, e0, e1, e2, e3, hrep⟩ := hl.at hbr hlt
      have hpart := M.flat_part_le (M.enc d) l j hlt
      have hsnoc := M.flat_snoc (M.enc d) l j hlt
      have hc := ih l[j] (List.getElem_mem hlt) _ (wr.alloc (.cells #[.int .i64 kx, .int .i64 nx, .string sx, .slice ax lx px] 24)) ((hrep.mono hbr.size).later ((Below.refl _ _).alloc (Nat.le_refl _) _))
      have HC := Lib.hid hc; have HS := Lib.hid hsnoc; clear hc hsnoc
      generalize hA : ((l.take j).map (M.enc d)).flatten.length = A at *
      generalize hE : (M.enc d l[j]).length = E at *
      have HA := Lib.hid hA; have HE := Lib.hid hE; clear hA hE
      go_wp2_with (go_at_call 27; refine (HC.out).mono ?_; rintro e w1 ⟨rfl, hb1⟩)
      go_roundw
      case rel =>
        refine ⟨j + 1, by omega, by go_num, ?_, hbr.trans (((Below.refl _ _).alloc hbr.size _).trans (hb1.mono (by simp; have := hbr.size; omega)))⟩
        rw [HS.out, List.length_append, HA.out, HE.out]; go_num
      case measure => simp [intOf]; omega
    · obtain rfl : j = l.length := by omega
      rw [List.take_length] at *
      go_wp2_with fail
      go_ret
      exact ⟨ret_int (by simp), hbr⟩

set_option maxHeartbeats 400000 in
theorem size_int (n : Int) (s : ByteArray) (a : Option Addr) (len cap : Nat) (w : World) (r : Nat) (hr : r ≤ 4611686018427387904)
    (hc : ∀ W, Below w.heap.size w W → Calls Try.prog 48 #[.agg #[.int .i64 1, .int .i64 n, .string s, .slice a len cap]] W fun e w' => e = .returned (.int .i64 r) ∧ Below W.heap.size W w') :
    Calls Try.prog 27 #[.agg #[.int .i64 1, .int .i64 n, .string s, .slice a len cap]] w fun e w' => e = .returned (.int .i64 (1 + r : Nat)) ∧ Below w.heap.size w w' := by
  have ix := kind1; have fx := kind1_size
  obtain ⟨b0, b1, b2, b3⟩ := box4 w (.int .i64 1) (.int .i64 n) (.string s) (.slice a len cap) 24
  have HC := Lib.hid hc; clear hc
  go_enter Try.func27, Try.ntmps27
  go_wp2_with fail
  have hbel : Below w.heap.size w (w.alloc (.cells #[.int .i64 1, .int .i64 n, .string s, .slice a len cap] 24)) := (Below.refl _ _).alloc (Nat.le_refl _) _
  generalize hW : w.alloc (.cells #[.int .i64 1, .int .i64 n, .string s, .slice a len cap] 24) = W at *
  clear hW
  have k0 := cell_regrown b0; have k1 := cell_regrown b1; have k2 := cell_regrown b2; have k3 := cell_regrown b3
  refine wp_region_qb (by kernel_rfl) ?_
  repeat (go_big_quiet_step (first | exact regrown_call (fun W _ => kinds_any W) _ _ | exact regrown_call (fun W' h' => HC.out W' (hbel.trans (h'.mono hbel.size))) _ _))
  refine wpQuiet_nil ?_
  intro W2 hb2
  go_wp2_with fail
  go_ret
  exact ⟨ret_int (by simp), hbel.trans (hb2.mono hbel.size)⟩

set_option maxHeartbeats 400000 in
theorem size_text (n : Int) (s : ByteArray) (a : Option Addr) (len cap : Nat) (w : World) (r : Nat) (hr : r ≤ 4611686018427387904)
    (hc : ∀ W, Below w.heap.size w W → Calls Try.prog 51 #[.agg #[.int .i64 2, .int .i64 n, .string s, .slice a len cap]] W fun e w' => e = .returned (.int .i64 r) ∧ Below W.heap.size W w') :
    Calls Try.prog 27 #[.agg #[.int .i64 2, .int .i64 n, .string s, .slice a len cap]] w fun e w' => e = .returned (.int .i64 (1 + r : Nat)) ∧ Below w.heap.size w w' := by
  have ix := kind2; have fx := kind2_size
  obtain ⟨b0, b1, b2, b3⟩ := box4 w (.int .i64 2) (.int .i64 n) (.string s) (.slice a len cap) 24
  have HC := Lib.hid hc; clear hc
  go_enter Try.func27, Try.ntmps27
  go_wp2_with fail
  have hbel : Below w.heap.size w (w.alloc (.cells #[.int .i64 2, .int .i64 n, .string s, .slice a len cap] 24)) := (Below.refl _ _).alloc (Nat.le_refl _) _
  generalize hW : w.alloc (.cells #[.int .i64 2, .int .i64 n, .string s, .slice a len cap] 24) = W at *
  clear hW
  have k0 := cell_regrown b0; have k1 := cell_regrown b1; have k2 := cell_regrown b2; have k3 := cell_regrown b3
  refine wp_region_qb (by kernel_rfl) ?_
  repeat (go_big_quiet_step (first | exact regrown_call (fun W _ => kinds_any W) _ _ | exact regrown_call (fun W' h' => HC.out W' (hbel.trans (h'.mono hbel.size))) _ _))
  refine wpQuiet_nil ?_
  intro W2 hb2
  go_wp2_with fail
  go_ret
  exact ⟨ret_int (by simp), hbel.trans (hb2.mono hbel.size)⟩

set_option maxHeartbeats 400000 in
theorem size_list (n : Int) (s : ByteArray) (a : Option Addr) (len cap : Nat) (w : World) (r : Nat) (hr : r ≤ 4611686018427387904)
    (hc : ∀ W, Below w.heap.size w W → Calls Try.prog 54 #[.agg #[.int .i64 3, .int .i64 n, .string s, .slice a len cap]] W fun e w' => e = .returned (.int .i64 r) ∧ Below W.heap.size W w') :
    Calls Try.prog 27 #[.agg #[.int .i64 3, .int .i64 n, .string s, .slice a len cap]] w fun e w' => e = .returned (.int .i64 (1 + r : Nat)) ∧ Below w.heap.size w w' := by
  have ix := kind3; have fx := kind3_size
  obtain ⟨b0, b1, b2, b3⟩ := box4 w (.int .i64 3) (.int .i64 n) (.string s) (.slice a len cap) 24
  have HC := Lib.hid hc; clear hc
  go_enter Try.func27, Try.ntmps27
  go_wp2_with fail
  have hbel : Below w.heap.size w (w.alloc (.cells #[.int .i64 3, .int .i64 n, .string s, .slice a len cap] 24)) := (Below.refl _ _).alloc (Nat.le_refl _) _
  generalize hW : w.alloc (.cells #[.int .i64 3, .int .i64 n, .string s, .slice a len cap] 24) = W at *
  clear hW
  have k0 := cell_regrown b0; have k1 := cell_regrown b1; have k2 := cell_regrown b2; have k3 := cell_regrown b3
  refine wp_region_qb (by kernel_rfl) ?_
  repeat (go_big_quiet_step (first | exact regrown_call (fun W _ => kinds_any W) _ _ | exact regrown_call (fun W' h' => HC.out W' (hbel.trans (h'.mono hbel.size))) _ _))
  refine wpQuiet_nil ?_
  intro W2 hb2
  go_wp2_with fail
  go_ret
  exact ⟨ret_int (by simp), hbel.trans (hb2.mono hbel.size)⟩

/-- size, at every well-formed value. -/
theorem size_any : ∀ (d : Nat) (t : M.T d) (v : Value) (w : World), Rep w.heap.size w d t v → M.formed d t = true → (M.enc d t).length ≤ 70368744177664 →
    Calls Try.prog 27 #[v] w fun e w' => e = .returned (.int .i64 (M.enc d t).length) ∧ Below w.heap.size w w'
  | 0, _, _, _, h, _, _ => h.elim
  | d + 1, (k, n, s, l), v, w, ⟨h1, h2, h3, h4, a, cap, hv, hl⟩, hf, hsz => by
    subst hv
    simp only [M.formed, Bool.or_eq_true, Bool.and_eq_true, beq_iff_eq] at hf
    have hu := M.unsig_bd n h2.1 h2.2
    have hn := (M.num_len (M.unsig n).toNat (by omega)).2
    have hn2 := (M.num_len s.size (by omega)).2
    have hn3 := (M.num_len l.length (by omega)).2
    rcases hf with (⟨⟨rfl, _⟩, _⟩ | ⟨⟨rfl, _⟩, _⟩) | ⟨⟨⟨rfl, _⟩, _⟩, hall⟩
    · have he : (M.enc (d + 1) (1, n, s, l)).length = 1 + (M.num (M.unsig n).toNat).length := by simp [M.enc]; omega
      rw [he]
      exact size_int n s a l.length cap w _ (by omega) (fun W _ => sizeInt_any 1 n s a l.length cap W h2.1 h2.2)
    · have he : (M.enc (d + 1) (2, n, s, l)).length = 1 + ((M.num s.size).length + s.size) := by simp [M.enc]; omega
      rw [he]
      exact size_text n s a l.length cap w _ (by omega) (fun W _ => sizeText_any 2 n s a l.length cap W h3)
    · have he : (M.enc (d + 1) (3, n, s, l)).length = 1 + ((M.num l.length).length + (l.map (M.enc d)).flatten.length) := by simp [M.enc]; omega
      rw [he] at hsz ⊢
      refine size_list n s a l.length cap w _ (by omega) (fun W hW => ?_)
      refine sizeList_any d 3 n s l a cap W h4 ?_ (by omega) (fun x hx v w hr => size_any d x v w hr ?_ ?_)
      · have hrep : Rep w.heap.size w (d + 1) (3, n, s, l) (.agg #[.int .i64 3, .int .i64 n, .string s, .slice a l.length cap]) := ⟨h1, h2, h3, h4, a, cap, rfl, hl⟩
        obtain ⟨_, _, _, _, a', cap', hv', hl'⟩ := (hrep.kept hW).mono hW.size
        simp only [Value.agg.injEq, Array.mk.injEq, List.cons.injEq, and_true, true_and, Value.slice.injEq] at hv'
        obtain ⟨rfl, rfl⟩ := hv'
        exact hl'
      · exact List.all_eq_true.1 hall x hx
      · obtain ⟨j, hj, rfl⟩ := List.getElem_of_mem hx
        have := M.flat_part_le (M.enc d) l j hj
        omega

end Go.Proofs.Ytmhchpdogjbpmaa
