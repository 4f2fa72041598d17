/- Contract of codec's depth and Check. -/
import Derived.Test.YtmhchpdogjbpmaaRep
namespace Go.Proofs.Ytmhchpdogjbpmaa
open Go.RowKit

/-- What depth hands back. -/
def DepthRes (d : Nat) (t : M.T d) : Value := .tuple #[.int .i64 (if M.formed d t then M.depth d t else 0 : Nat), .bool (M.formed d t)]

theorem depthRes_no {d : Nat} {t : M.T d} (h : M.formed d t = false) : DepthRes d t = .tuple #[.int .i64 0, .bool false] := by unfold DepthRes; simp [h]
theorem depthRes_yes {d : Nat} {t : M.T d} {m : Nat} (h : M.formed d t = true) (hm : M.depth d t = m) : DepthRes d t = .tuple #[.int .i64 m, .bool true] := by unfold DepthRes; simp [h, hm]

theorem max_cast (a b : Nat) : ((max a b : Nat) : Int) = max (a : Int) (b : Int) := by omega

set_option maxHeartbeats 1000000 in
theorem depth_list (d : Nat) (n : Int) (s : ByteArray) (l : List (M.T d)) (a : Option Addr) (cap : Nat) (w : World) (hf : (n == 0 && s.toList.isEmpty) = true) (hlen : l.length ≤ 70368744177664)
    (hh : M.height (d + 1) (3, n, s, l) ≤ 1099511627776)
    (hl : l = [] ∨ ∃ b off, a = some ⟨b, off, none⟩ ∧ b < w.heap.size ∧ ∀ i x, l[i]? = some x → ∃ c0 c1 c2 c3,
        w.cell? ⟨b, off + i * 4, none⟩ = some c0 ∧ w.cell? ⟨b, off + i * 4 + 1, none⟩ = some c1 ∧ w.cell? ⟨b, off + i * 4 + 2, none⟩ = some c2 ∧ w.cell? ⟨b, off + i * 4 + 3, none⟩ = some c3 ∧
        Rep w.heap.size w d x (.agg #[c0, c1, c2, c3]))
    (ih : ∀ (x : M.T d) (v : Value) (w : World), Rep w.heap.size w d x v → M.height d x ≤ 1099511627776 → Calls Try.prog 29 #[v] w fun e w' => e = .returned (DepthRes d x) ∧ Below w.heap.size w w') :
    Calls Try.prog 29 #[.agg #[.int .i64 3, .int .i64 n, .string s, .slice a l.length cap]] w fun e w' => e = .returned (DepthRes (d + 1) (3, n, s, l)) ∧ Below w.heap.size w w' := by
  have ix := kind3; have fx := kind3_fits
  obtain ⟨b0, b1, b2, b3⟩ := box4 w (.int .i64 3) (.int .i64 n) (.string s) (.slice a l.length cap) 24
  go_enter Try.func29, Try.ntmps29
  go_wp2_with fail
  have hbel : Below w.heap.size w (w.alloc (.cells #[.int .i64 3, .int .i64 n, .string s, .slice a l.length cap] 24)) := (Below.refl _ _).alloc (Nat.le_refl _) _
  generalize hW : w.alloc (.cells #[.int .i64 3, .int .i64 n, .string s, .slice a l.length cap] 24) = W at *
  clear hW
  have k0 := cell_regrown b0; have k1 := cell_regrown b1; have k2 := cell_regrown b2; have k3 := cell_regrown b3
  refine wp_region_qb (by kernel_rfl) ?_
  repeat (go_big_quiet_step (first | exact regrown_call (fun W _ => kinds_any W) _ _ | exact regrown_call (fun W _ => by have := fitsList_any 3 n s a l.length cap W; rw [hf] at this; exact this) _ _))
  refine wpQuiet_nil ?_
  intro W2 hb2
  clear k0 k1 k2 k3 ix fx
  obtain ⟨j0, j3⟩ := And.intro (hb2.cell (p := ⟨w.heap.size, 0, none⟩) (block_lt_of_cell b0)) (hb2.cell (p := ⟨w.heap.size, 3, none⟩) (block_lt_of_cell b3))
  rw [b0] at j0; rw [b3] at j3
  go_wp2_with fail
  have hbw : Below w.heap.size w W2 := hbel.trans (hb2.mono hbel.size)
  clear b0 b1 b2 b3 j0 j3 hb2 hbel
  go_loopw [2, 32] (fun nn ii wr => ∃ j : Nat, j ≤ l.length ∧ ii = .int .i64 j ∧ nn = .int .i64 (M.lmax ((l.take j).map (M.depth d)) : Nat) ∧ (l.take j).all (M.formed d) = true ∧ Below w.heap.size w wr)
    (fun _ ii _ => l.length - (intOf ii).toNat)
  case atStart => exact ⟨0, Nat.zero_le _, rfl, by simp [M.lmax], by simp, hbw⟩
  case round =>
    obtain ⟨j, hj, rfl, rfl, hall, hbr⟩ := hrel
    by_cases hlt : j < l.length
    · rcases hl with rfl | ⟨b, off, rfl, hb, hcs⟩
      · simp at hlt
      obtain ⟨c0, c1, c2, c3, e0, e1, e2, e3, hrep⟩ := hcs j l[j] (by simp [hlt])
      rw [← hbr.cell hb] at e0 e1 e2 e3
      obtain ⟨kx, nx, sx, ax, lx, px, hx⟩ := hrep.shape
      simp only [Value.agg.injEq, Array.mk.injEq, List.cons.injEq, and_true] at hx
      obtain ⟨rfl, rfl, rfl, rfl⟩ := hx
      have hrep' := (hrep.kept hbr).mono hbr.size
      have hhx : M.height d l[j] ≤ 1099511627776 := by
        have : M.height d l[j] ≤ M.lmax (l.map (M.height d)) := M.le_lmax (List.mem_map.2 ⟨l[j], List.getElem_mem hlt, rfl⟩)
        simp only [M.height] at hh; omega
      have hdx := M.depth_le d l[j]
      have htk : (l.take (j + 1)).map (M.depth d) = (l.take j).map (M.depth d) ++ [M.depth d l[j]] := by rw [List.take_succ_eq_append_getElem hlt, List.map_append]; rfl
      have hta : (l.take (j + 1)).all (M.formed d) = ((l.take j).all (M.formed d) && M.formed d l[j]) := by rw [List.take_succ_eq_append_getElem hlt, List.all_append]; simp only [List.all_cons, List.all_nil, Bool.and_true]
      have HT := Lib.hid htk; have HA := Lib.hid hta; have HALL := Lib.hid hall
      clear htk hta hall
      have hmx : M.lmax ((l.take j).map (M.depth d)) ≤ 1099511627776 := by
        have : ∀ (l : List (M.T d)) (j : Nat), M.lmax ((l.take j).map (M.depth d)) ≤ M.lmax (l.map (M.height d)) := by
          intro l
          induction l with
          | nil => simp [M.lmax]
          | cons x xs ihx =>
            intro j
            cases j with
            | zero => simp [M.lmax]
            | succ j => simp only [List.take_succ_cons, List.map_cons, M.lmax_cons]; have := ihx j; have := M.depth_le d x; omega
        have := this l j
        simp only [M.height] at hh; omega
      by_cases hfx : M.formed d l[j] = true
      · have hc := ih l[j] _ (wr.alloc (.cells #[.int .i64 kx, .int .i64 nx, .string sx, .slice ax lx px] 24)) (hrep'.later ((Below.refl _ _).alloc (Nat.le_refl _) _)) hhx
        unfold DepthRes at hc; rw [hfx, if_pos rfl] at hc
        have HC := Lib.hid hc; have HF := Lib.hid hfx; clear hc hfx
        go_wp2_with (go_at_call 29; refine (HC.out).mono ?_; rintro e w1 ⟨rfl, hb1⟩)
        go_roundw
        case rel =>
          refine ⟨j + 1, by omega, by go_num, ?_, by rw [HA.out, HALL.out, HF.out]; rfl, hbr.trans (((Below.refl _ _).alloc hbr.size _).trans (hb1.mono (by simp; have := hbr.size; omega)))⟩
          rw [HT.out, M.lmax_snoc, max_cast]; simp [List.map_take]
        case measure => simp [intOf]; omega
      · have hfx' : M.formed d l[j] = false := by simpa using hfx
        have hc := ih l[j] _ (wr.alloc (.cells #[.int .i64 kx, .int .i64 nx, .string sx, .slice ax lx px] 24)) (hrep'.later ((Below.refl _ _).alloc (Nat.le_refl _) _)) hhx
        have hno : l.all (M.formed d) = false := by
          rw [List.all_eq_false]; exact ⟨l[j], List.getElem_mem hlt, by simp [hfx']⟩
        unfold DepthRes at hc; rw [hfx'] at hc
        have HC := Lib.hid hc; have HN := Lib.hid hno; clear hc hfx hfx' hno
        go_wp2_with (go_at_call 29; refine (HC.out).mono ?_; rintro e w1 ⟨rfl, hb1⟩)
        go_ret2
        have hres : DepthRes (d + 1) (3, n, s, l) = .tuple #[.int .i64 0, .bool false] := depthRes_no (by simp only [M.formed]; rw [HN.out]; simp)
        exact ⟨by rw [hres]; rfl, hbr.trans (((Below.refl _ _).alloc hbr.size _).trans (hb1.mono (by simp; have := hbr.size; omega)))⟩
    · obtain rfl : j = l.length := by omega
      rw [List.take_length] at hall
      have hmx : M.lmax (l.map (M.depth d)) ≤ 1099511627776 := by
        have := M.depth_le (d + 1) (3, n, s, l)
        simp only [M.depth, M.height] at this hh
        simp at this; omega
      have HALL := Lib.hid hall; clear hall
      go_wp2_with fail
      go_ret2
      have hres : DepthRes (d + 1) (3, n, s, l) = .tuple #[.int .i64 (M.lmax (l.map (M.depth d)) + 1 : Nat), .bool true] := depthRes_yes (by simp only [M.formed]; rw [HALL.out]; simp only [Bool.and_assoc, Bool.and_true, hf]; simp) (by simp [M.depth])
      exact ⟨by rw [hres]; rfl, hbr⟩

/-- depth, at every value. -/
theorem depth_any : ∀ (d : Nat) (t : M.T d) (v : Value) (w : World), Rep w.heap.size w d t v → M.height d t ≤ 1099511627776 →
    Calls Try.prog 29 #[v] w fun e w' => e = .returned (DepthRes d t) ∧ Below w.heap.size w w'
  | 0, _, _, _, h, _ => h.elim
  | d + 1, (k, n, s, l), v, w, ⟨h1, h2, h3, h4, a, cap, hv, hl⟩, hh => by
    subst hv
    have hle : (l.length == 0) = l.isEmpty := by cases l <;> rfl
    rcases (show k < 1 ∨ 3 < k ∨ k = 1 ∨ k = 2 ∨ k = 3 from by omega) with hk | hk | rfl | rfl | rfl
    · have e1 : (k == 1) = false := by simp; omega
      have e2 : (k == 2) = false := by simp; omega
      have e3 : (k == 3) = false := by simp; omega
      have hr : DepthRes (d + 1) (k, n, s, l) = .tuple #[.int .i64 0, .bool false] := depthRes_no (by simp [M.formed, e1, e2, e3])
      rw [hr]; exact depth_low k n s a l.length cap w hk
    · have e1 : (k == 1) = false := by simp; omega
      have e2 : (k == 2) = false := by simp; omega
      have e3 : (k == 3) = false := by simp; omega
      have hr : DepthRes (d + 1) (k, n, s, l) = .tuple #[.int .i64 0, .bool false] := depthRes_no (by simp [M.formed, e1, e2, e3])
      rw [hr]; exact depth_high k n s a l.length cap w hk
    · cases hf : (s.toList.isEmpty && l.isEmpty) with
      | true =>
        have hr : DepthRes (d + 1) (1, n, s, l) = .tuple #[.int .i64 0, .bool true] := depthRes_yes (m := 0) (by simp [M.formed, hf]) (by simp [M.depth])
        rw [hr]; exact depth_int_true n s a l.length cap w (by rw [hle]; exact hf)
      | false =>
        have hr : DepthRes (d + 1) (1, n, s, l) = .tuple #[.int .i64 0, .bool false] := depthRes_no (by simp [M.formed, hf])
        rw [hr]; exact depth_int_false n s a l.length cap w (by rw [hle]; exact hf)
    · cases hf : (n == 0 && l.isEmpty) with
      | true =>
        have hr : DepthRes (d + 1) (2, n, s, l) = .tuple #[.int .i64 0, .bool true] := depthRes_yes (m := 0) (by simp [M.formed, hf]) (by simp [M.depth])
        rw [hr]; exact depth_text_true n s a l.length cap w (by rw [hle]; exact hf)
      | false =>
        have hr : DepthRes (d + 1) (2, n, s, l) = .tuple #[.int .i64 0, .bool false] := depthRes_no (by simp [M.formed, hf])
        rw [hr]; exact depth_text_false n s a l.length cap w (by rw [hle]; exact hf)
    · cases hf : (n == 0 && s.toList.isEmpty) with
      | true => exact depth_list d n s l a cap w hf h4 hh hl (fun x v w hr hx => depth_any d x v w hr hx)
      | false =>
        have hr : DepthRes (d + 1) (3, n, s, l) = .tuple #[.int .i64 0, .bool false] := depthRes_no (by simp [M.formed, hf])
        rw [hr]; exact depth_list_false n s a l.length cap w hf

end Go.Proofs.Ytmhchpdogjbpmaa
