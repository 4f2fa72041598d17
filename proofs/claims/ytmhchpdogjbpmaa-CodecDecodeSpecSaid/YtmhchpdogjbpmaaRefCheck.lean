/- Contracts of the reference's Formed, Depth, Check. -/
import Derived.Test.YtmhchpdogjbpmaaRefEnc
namespace Go.Proofs.Ytmhchpdogjbpmaa
open Go.RowKit

theorem isEmpty_false {s : ByteArray} (h : ¬ s.toList = []) : s.toList.isEmpty = false := by simpa using h

set_option maxHeartbeats 1000000 in
theorem rformed_int (n : Int) (s : ByteArray) (a : Option Addr) (len cap : Nat) (w : World) :
    Calls Try.prog 30 #[.agg #[.int .i64 1, .int .i64 n, .string s, .slice a len cap]] w fun e w' => e = .returned (.bool (s.toList.isEmpty && len == 0)) ∧ Below w.heap.size w w' := by
  have hbw : Below w.heap.size w (w.alloc (.cells #[.int .i64 1, .int .i64 n, .string s, .slice a len cap] 24)) := (Below.refl _ _).alloc (Nat.le_refl _) _
  by_cases hs : s.toList = []
  all_goals
    go_enter Try.func30, Try.ntmps30
    go_wp2_with fail
    go_ret
    exact ⟨by simp [hs, beq_len0], hbw⟩

set_option maxHeartbeats 1000000 in
theorem rformed_text (n : Int) (s : ByteArray) (a : Option Addr) (len cap : Nat) (w : World) :
    Calls Try.prog 30 #[.agg #[.int .i64 2, .int .i64 n, .string s, .slice a len cap]] w fun e w' => e = .returned (.bool (n == 0 && len == 0)) ∧ Below w.heap.size w w' := by
  have hbw : Below w.heap.size w (w.alloc (.cells #[.int .i64 2, .int .i64 n, .string s, .slice a len cap] 24)) := (Below.refl _ _).alloc (Nat.le_refl _) _
  by_cases hs : (n == 0) = true
  all_goals
    go_enter Try.func30, Try.ntmps30
    go_wp2_with fail
    go_ret
    exact ⟨by simp [hs, beq_len0], hbw⟩

set_option maxHeartbeats 1000000 in
theorem rformed_other (k n : Int) (s : ByteArray) (a : Option Addr) (len cap : Nat) (w : World) (h1 : k ≠ 1) (h2 : k ≠ 2) (h3 : k ≠ 3) :
    Calls Try.prog 30 #[.agg #[.int .i64 k, .int .i64 n, .string s, .slice a len cap]] w fun e w' => e = .returned (.bool false) ∧ Below w.heap.size w w' := by
  have hbw : Below w.heap.size w (w.alloc (.cells #[.int .i64 k, .int .i64 n, .string s, .slice a len cap] 24)) := (Below.refl _ _).alloc (Nat.le_refl _) _
  have t1 : (k == 1) = false := by simpa using h1
  have t2 : (k == 2) = false := by simpa using h2
  have t3 : (k == 3) = false := by simpa using h3
  clear h1 h2 h3
  go_enter Try.func30, Try.ntmps30
  go_wp2_with fail
  go_ret
  exact ⟨rfl, hbw⟩

set_option maxHeartbeats 1000000 in
theorem rformed_list (d : Nat) (n : Int) (s : ByteArray) (l : List (M.T d)) (a : Option Addr) (cap : Nat) (w : World) (hlen : l.length ≤ 70368744177664) (hl : Elems w.heap.size w d a l)
    (ih : ∀ (x : M.T d) (v : Value) (w : World), Rep w.heap.size w d x v → Calls Try.prog 30 #[v] w fun e w' => e = .returned (.bool (M.formed d x)) ∧ Below w.heap.size w w') (R : Bool) (hR : (l.all (M.formed d) && (n == 0 && s.toList.isEmpty)) = R) :
    Calls Try.prog 30 #[.agg #[.int .i64 3, .int .i64 n, .string s, .slice a l.length cap]] w fun e w' => e = .returned (.bool R) ∧ Below w.heap.size w w' := by
  have HI := Lib.hid ih; have HR := Lib.hid hR; clear ih hR
  have hbw : Below w.heap.size w (w.alloc (.cells #[.int .i64 3, .int .i64 n, .string s, .slice a l.length cap] 24)) := (Below.refl _ _).alloc (Nat.le_refl _) _
  have hbx := heap_alloc_new w (.cells #[.int .i64 3, .int .i64 n, .string s, .slice a l.length cap] 24)
  go_enter Try.func30, Try.ntmps30
  go_wp2_with fail
  generalize w.alloc (.cells #[.int .i64 3, .int .i64 n, .string s, .slice a l.length cap] 24) = WA at *
  go_loopw [3] (fun ii wr => ∃ j : Nat, j ≤ l.length ∧ ii = .int .i64 j ∧ Hid (((l.drop j).all (M.formed d) && (n == 0 && s.toList.isEmpty)) = R) ∧ wr.heap[w.heap.size]? = some (.cells #[.int .i64 3, .int .i64 n, .string s, .slice a l.length cap] 24 (0, 0)) ∧ Below w.heap.size w wr)
    (fun ii _ => l.length - (intOf ii).toNat)
  case atStart => exact ⟨0, Nat.zero_le _, rfl, by simpa using HR, hbx, hbw⟩
  case round =>
    obtain ⟨j, hj, rfl, HC, hbx1, hbr⟩ := hrel
    obtain ⟨⟨b0, b1, b2, b3⟩, gg⟩ := cells4 hbx1
    clear gg hbx hbw
    by_cases hlt : j < l.length
    · obtain ⟨b, off, kx, nx, sx, ax, lx, px, rfl, hbB, e0, e1, e2, e3, hrep⟩ := hl.at hbr hlt
      have hc := HC.out
      rw [List.drop_eq_getElem_cons hlt, List.all_cons] at hc
      have hf := HI.out l[j] _ wr (hrep.mono hbr.size)
      cases hx : M.formed d l[j] with
      | true =>
        rw [hx] at hf hc
        rw [Bool.true_and] at hc
        have HF := Lib.hid hf; have HC2 := Lib.hid hc
        clear hf hc hx HC hrep
        go_wp2_with fail
        refine HF.out.mono ?_
        rintro e w1 ⟨rfl, hb1⟩
        have hbx2 := box_kept2 hbx1 hb1
        have hbr2 := hbr.trans (hb1.mono hbr.size)
        clear hbx1 hb1 b0 b1 b2 b3 e0 e1 e2 e3
        go_wp2_with fail
        go_roundw
        case rel => exact ⟨j + 1, by omega, by go_num, HC2, hbx2, hbr2⟩
        case measure => simp [intOf]; omega
      | false =>
        rw [hx] at hf hc
        rw [Bool.false_and, Bool.false_and] at hc
        have HF := Lib.hid hf; have HC2 := Lib.hid hc
        clear hf hc hx HC hrep
        go_wp2_with fail
        refine HF.out.mono ?_
        rintro e w1 ⟨rfl, hb1⟩
        have hbr2 := hbr.trans (hb1.mono hbr.size)
        clear hbx1 hb1 b0 b1 b2 b3 e0 e1 e2 e3
        go_wp2_with fail
        go_ret
        exact ⟨by rw [← HC2.out]; rfl, hbr2⟩
    · have hc := HC.out
      rw [List.drop_of_length_le (by omega), List.all_nil, Bool.true_and] at hc
      have HC2 := Lib.hid hc
      clear hc HC
      by_cases hs : (n == 0) = true
      all_goals
        go_wp2_with fail
        go_ret
        exact ⟨by rw [← HC2.out]; simp [hs], hbr⟩

/-- Formed, at every value. -/
theorem rformed_any : ∀ (d : Nat) (t : M.T d) (v : Value) (w : World), Rep w.heap.size w d t v → Calls Try.prog 30 #[v] w fun e w' => e = .returned (.bool (M.formed d t)) ∧ Below w.heap.size w w'
  | 0, _, _, _, h => h.elim
  | d + 1, (k, n, s, l), v, w, ⟨h1, h2, h3, h4, a, cap, hv, hl⟩ => by
    subst hv
    have hle : (l.length == 0) = l.isEmpty := by cases l <;> rfl
    by_cases k1 : k = 1
    · subst k1
      have : M.formed (d + 1) (1, n, s, l) = (s.toList.isEmpty && l.length == 0) := by simp [M.formed, hle]
      rw [this]; exact rformed_int n s a l.length cap w
    · by_cases k2 : k = 2
      · subst k2
        have : M.formed (d + 1) (2, n, s, l) = (n == 0 && l.length == 0) := by simp [M.formed, hle]
        rw [this]; exact rformed_text n s a l.length cap w
      · by_cases k3 : k = 3
        · subst k3
          refine rformed_list d n s l a cap w h4 hl (fun x v w hr => rformed_any d x v w hr) _ ?_
          simp [M.formed, Bool.and_comm, Bool.and_assoc]
        · have : M.formed (d + 1) (k, n, s, l) = false := by simp [M.formed, k1, k2, k3]
          rw [this]; exact rformed_other k n s a l.length cap w k1 k2 k3

set_option maxHeartbeats 1000000 in
theorem rdepth_flat (k n : Int) (s : ByteArray) (a : Option Addr) (len cap : Nat) (w : World) (h : k ≠ 3) :
    Calls Try.prog 31 #[.agg #[.int .i64 k, .int .i64 n, .string s, .slice a len cap]] w fun e w' => e = .returned (.int .i64 0) ∧ Below w.heap.size w w' := by
  have t1 : (k == 3) = false := by simpa using h
  have t2 : (k != 3) = true := by simpa using h
  clear h
  go_enter Try.func31, Try.ntmps31
  go_wp2_with fail
  go_ret
  exact ⟨rfl, (Below.refl _ _).alloc (Nat.le_refl _) _⟩

theorem lmax_drop (l : List Nat) (j : Nat) (h : j < l.length) : max (M.lmax (l.take j)) l[j] = M.lmax (l.take (j + 1)) := by
  rw [List.take_succ_eq_append_getElem h, M.lmax_snoc]

set_option maxHeartbeats 1000000 in
theorem rdepth_list (d : Nat) (n : Int) (s : ByteArray) (l : List (M.T d)) (a : Option Addr) (cap : Nat) (w : World) (hlen : l.length ≤ 70368744177664) (hl : Elems w.heap.size w d a l) (hd : ∀ x ∈ l, M.depth d x ≤ 1099511627776)
    (ih : ∀ (x : M.T d), x ∈ l → ∀ (v : Value) (w : World), Rep w.heap.size w d x v → Calls Try.prog 31 #[v] w fun e w' => e = .returned (.int .i64 (M.depth d x)) ∧ Below w.heap.size w w') (R : Nat) (hR : M.lmax (l.map (M.depth d)) + 1 = R) :
    Calls Try.prog 31 #[.agg #[.int .i64 3, .int .i64 n, .string s, .slice a l.length cap]] w fun e w' => e = .returned (.int .i64 R) ∧ Below w.heap.size w w' := by
  have HI := Lib.hid ih; have HR := Lib.hid hR; have HD := Lib.hid hd; clear ih hR hd
  have hbw : Below w.heap.size w (w.alloc (.cells #[.int .i64 3, .int .i64 n, .string s, .slice a l.length cap] 24)) := (Below.refl _ _).alloc (Nat.le_refl _) _
  have hbx := heap_alloc_new w (.cells #[.int .i64 3, .int .i64 n, .string s, .slice a l.length cap] 24)
  go_enter Try.func31, Try.ntmps31
  go_wp2_with fail
  generalize w.alloc (.cells #[.int .i64 3, .int .i64 n, .string s, .slice a l.length cap] 24) = WA at *
  go_loopw [3, 4] (fun nn ii wr => ∃ j m : Nat, j ≤ l.length ∧ ii = .int .i64 j ∧ nn = .int .i64 m ∧ m ≤ 1099511627776 ∧ Hid (M.lmax ((l.map (M.depth d)).take j) = m) ∧ wr.heap[w.heap.size]? = some (.cells #[.int .i64 3, .int .i64 n, .string s, .slice a l.length cap] 24 (0, 0)) ∧ Below w.heap.size w wr)
    (fun _ ii _ => l.length - (intOf ii).toNat)
  case atStart => exact ⟨0, 0, Nat.zero_le _, rfl, rfl, by omega, Lib.hid rfl, hbx, hbw⟩
  case round =>
    obtain ⟨j, m, hj, rfl, rfl, hm, HC, hbx1, hbr⟩ := hrel
    obtain ⟨⟨b0, b1, b2, b3⟩, gg⟩ := cells4 hbx1
    clear gg hbx hbw
    by_cases hlt : j < l.length
    · obtain ⟨b, off, kx, nx, sx, ax, lx, px, rfl, hbB, e0, e1, e2, e3, hrep⟩ := hl.at hbr hlt
      have hdx := HD.out l[j] (List.getElem_mem hlt)
      have hc := lmax_drop (l.map (M.depth d)) j (by simpa using hlt)
      rw [HC.out, List.getElem_map] at hc
      have HF := Lib.hid (HI.out l[j] (List.getElem_mem hlt) _ wr (hrep.mono hbr.size)); have HC2 := Lib.hid hc.symm
      have hmx : max m (M.depth d l[j]) ≤ 1099511627776 := by omega
      have hcast : max ((m : Nat) : Int) ((M.depth d l[j] : Nat) : Int) = ((max m (M.depth d l[j]) : Nat) : Int) := by omega
      clear hc HC hrep
      go_wp2_with fail
      refine HF.out.mono ?_
      rintro e w1 ⟨rfl, hb1⟩
      have hbx2 := box_kept2 hbx1 hb1
      have hbr2 := hbr.trans (hb1.mono hbr.size)
      clear hbx1 hb1 b0 b1 b2 b3 e0 e1 e2 e3
      go_wp2_with fail
      go_roundw
      case rel => exact ⟨j + 1, max m (M.depth d l[j]), by omega, by go_num, rfl, hmx, HC2, hbx2, hbr2⟩
      case measure => simp [intOf]; omega
    · have hc := HC.out
      rw [List.take_of_length_le (by simp; omega)] at hc
      have hc2 : m + 1 = R := by rw [← HR.out, hc]
      have HC2 := Lib.hid hc2
      clear hc HC hc2
      go_wp2_with fail
      go_ret
      exact ⟨ret_int (by rw [← HC2.out]; go_num), hbr⟩

/-- Depth, at every value. -/
theorem rdepth_any : ∀ (d : Nat) (t : M.T d) (v : Value) (w : World), Rep w.heap.size w d t v → M.height d t ≤ 1099511627776 → Calls Try.prog 31 #[v] w fun e w' => e = .returned (.int .i64 (M.depth d t)) ∧ Below w.heap.size w w'
  | 0, _, _, _, h, _ => h.elim
  | d + 1, (k, n, s, l), v, w, ⟨h1, h2, h3, h4, a, cap, hv, hl⟩, hh => by
    subst hv
    by_cases k3 : k = 3
    · subst k3
      have hx : ∀ x ∈ l, M.height d x ≤ 1099511627776 := fun x hx => by
        have : M.height d x ≤ M.lmax (l.map (M.height d)) := M.le_lmax (List.mem_map.2 ⟨x, hx, rfl⟩)
        simp only [M.height] at hh; omega
      exact rdepth_list d n s l a cap w h4 hl (fun x hxl => Nat.le_trans (M.depth_le d x) (hx x hxl)) (fun x hxl v w hr => rdepth_any d x v w hr (hx x hxl)) _ (by simp [M.depth])
    · have : M.depth (d + 1) (k, n, s, l) = 0 := by simp [M.depth, k3]
      rw [this]; exact rdepth_flat k n s a l.length cap w k3

set_option maxHeartbeats 1000000 in
theorem rcheck_any (d : Nat) (t : M.T d) (v : Value) (w : World) (hr : Rep w.heap.size w d t v) (hh : M.height d t ≤ 1099511627776) :
    Calls Try.prog 17 #[v] w fun e w' => e = .returned (.int .i64 (M.check d t)) ∧ Below w.heap.size w w' := by
  obtain ⟨k, n, s, a, len, cap, rfl⟩ := hr.shape
  have hbw : Below w.heap.size w (w.alloc (.cells #[.int .i64 k, .int .i64 n, .string s, .slice a len cap] 24)) := (Below.refl _ _).alloc (Nat.le_refl _) _
  have hbx := heap_alloc_new w (.cells #[.int .i64 k, .int .i64 n, .string s, .slice a len cap] 24)
  have hrA := hr.later hbw
  have hf := rformed_any d t _ _ hrA
  have hd := M.depth_le d t
  cases hx : M.formed d t with
  | false =>
    rw [hx] at hf
    have HF := Lib.hid hf
    have HK : Hid (M.check d t = 1) := Lib.hid (by unfold M.check; simp [hx])
    clear hf hx hrA hr
    go_enter Try.func17, Try.ntmps17
    go_wp2_with fail
    refine HF.out.mono ?_
    rintro e w1 ⟨rfl, hb1⟩
    go_wp2_with fail
    go_ret
    exact ⟨ret_int (by rw [HK.out]), hbw.trans (hb1.mono hbw.size)⟩
  | true =>
    rw [hx] at hf
    have HF := Lib.hid hf
    have HK : Hid (M.check d t = if 16 < M.depth d t then 2 else 0) := Lib.hid (by unfold M.check; simp [hx])
    have HRA := Lib.hid hrA
    clear hf hx hr hrA
    by_cases h16 : 16 < M.depth d t
    all_goals
      go_enter Try.func17, Try.ntmps17
      go_wp2_with fail
      refine HF.out.mono ?_
      rintro e w1 ⟨rfl, hb1⟩
      have hb2 := hbw.trans (hb1.mono hbw.size)
      obtain ⟨⟨b0, b1, b2, b3⟩, gg⟩ := cells4 (box_kept2 hbx hb1)
      clear gg
      have HD := Lib.hid (rdepth_any d t _ _ (HRA.out.later hb1) hh)
      go_wp2_with fail
      refine HD.out.mono ?_
      rintro e w2 ⟨rfl, hb3⟩
      clear b0 b1 b2 b3
      go_wp2_with fail
      go_ret
      exact ⟨ret_int (by rw [HK.out]; simp [h16]), hb2.trans (hb3.mono hb2.size)⟩

/-- What the reference's Encode hands back. -/
def REncRes (d : Nat) (t : M.T d) (w : World) (e : Ending) (w' : World) : Prop :=
  (M.check d t = 0 ∧ ∃ a cap, e = .returned (.tuple #[.slice a (M.enc d t).length cap, .int .i64 0]) ∧ BytesAt w' a (M.enc d t) ∧ Below w.heap.size w w') ∨
  (M.check d t ≠ 0 ∧ e = .returned (.tuple #[.slice none 0 0, .int .i64 (M.check d t)]) ∧ Below w.heap.size w w')

set_option maxHeartbeats 1000000 in
theorem rEncode_any (d : Nat) (t : M.T d) (v : Value) (w : World) (hr : Rep w.heap.size w d t v) (hh : M.height d t ≤ 1099511627776) (hsz : (M.enc d t).length ≤ 35184372088832) :
    Calls Try.prog 13 #[v] w (REncRes d t w) := by
  obtain ⟨k, n, s, a, len, cap, rfl⟩ := hr.shape
  have hbw : Below w.heap.size w (w.alloc (.cells #[.int .i64 k, .int .i64 n, .string s, .slice a len cap] 24)) := (Below.refl _ _).alloc (Nat.le_refl _) _
  have hbx := heap_alloc_new w (.cells #[.int .i64 k, .int .i64 n, .string s, .slice a len cap] 24)
  have HRA := Lib.hid (hr.later hbw)
  have hc := rcheck_any d t _ _ (hr.later hbw) hh
  clear hr
  by_cases hck : M.check d t = 0
  · rw [hck] at hc
    have HC := Lib.hid hc; have HCK := Lib.hid hck
    clear hc hck
    go_enter Try.func13, Try.ntmps13
    go_wp2_with fail
    refine HC.out.mono ?_
    rintro e w1 ⟨rfl, hb1⟩
    have hb2 := hbw.trans (hb1.mono hbw.size)
    obtain ⟨⟨b0, b1, b2, b3⟩, gg⟩ := cells4 (box_kept2 hbx hb1)
    clear gg
    have HE := Lib.hid (rencode_any d t _ _ (HRA.out.later hb1) hsz)
    go_wp2_with fail
    refine HE.out.mono ?_
    rintro e w2 ⟨g, cap2, rfl, ho2, hb3⟩
    have HB := Lib.hid (owns_bytesAt ho2)
    clear b0 b1 b2 b3 ho2 HE HC
    go_wp2_with fail
    go_ret2
    exact .inl ⟨HCK.out, _, _, rfl, HB.out, hb2.trans (hb3.mono hb2.size)⟩
  · have hne : (M.check d t == 0) = false := by simpa using hck
    have hne2 : (M.check d t != 0) = true := by simpa using hck
    have HC := Lib.hid hc; have HCK := Lib.hid hck
    clear hc hck
    go_enter Try.func13, Try.ntmps13
    go_wp2_with fail
    refine HC.out.mono ?_
    rintro e w1 ⟨rfl, hb1⟩
    go_wp2_with fail
    go_ret2
    exact .inr ⟨HCK.out, rfl, hbw.trans (hb1.mono hbw.size)⟩

set_option maxHeartbeats 1000000 in
theorem rSize_any (d : Nat) (t : M.T d) (v : Value) (w : World) (hr : Rep w.heap.size w d t v) (hh : M.height d t ≤ 1099511627776) (hsz : (M.enc d t).length ≤ 35184372088832) :
    Calls Try.prog 15 #[v] w fun e w' => e = .returned (SizeRes d t) ∧ Below w.heap.size w w' := by
  obtain ⟨k, n, s, a, len, cap, rfl⟩ := hr.shape
  have hbw : Below w.heap.size w (w.alloc (.cells #[.int .i64 k, .int .i64 n, .string s, .slice a len cap] 24)) := (Below.refl _ _).alloc (Nat.le_refl _) _
  have HE := Lib.hid (rEncode_any d t _ _ (hr.later hbw) hh hsz)
  clear hr
  go_enter Try.func15, Try.ntmps15
  go_wp2_with fail
  refine HE.out.mono ?_
  rintro e w1 (⟨hck, a1, cap1, rfl, _, hb1⟩ | ⟨hck, rfl, hb1⟩)
  · have HR : Hid (SizeRes d t = .tuple #[.int .i64 (M.enc d t).length, .int .i64 0]) := Lib.hid (by unfold SizeRes; rw [if_pos hck, hck])
    clear hck
    go_wp2_with fail
    go_ret2
    exact ⟨by rw [HR.out]; rfl, hbw.trans (hb1.mono hbw.size)⟩
  · have HR : Hid (SizeRes d t = .tuple #[.int .i64 0, .int .i64 (M.check d t)]) := Lib.hid (by unfold SizeRes; rw [if_neg hck])
    clear hck
    go_wp2_with fail
    go_ret2
    exact ⟨by rw [HR.out]; rfl, hbw.trans (hb1.mono hbw.size)⟩

end Go.Proofs.Ytmhchpdogjbpmaa
