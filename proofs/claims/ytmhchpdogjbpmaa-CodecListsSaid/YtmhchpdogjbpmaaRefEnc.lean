/- Contract of the reference's encode. -/
import Derived.Test.YtmhchpdogjbpmaaRefNum
import Derived.Deep.RegionHeld3
import Derived.Deep.AppendLies
namespace Go.Proofs.Ytmhchpdogjbpmaa
open Go.RowKit

/-- At a step of a region that draws: 'append(b, c...)', b a row of the call's own, c a slice of bytes somewhere. -/
theorem step_cat {ops : Array Oper} {o : Oper} {a : Act} {K : Act → World → Prop} {Q : Exit → Act → World → Prop} {E : Prop} {w : World} (hgd : o.guard = none) (s x : Operand)
    (ho : o.op = .call { callee := .builtin .append, args := #[s, x], argTypes := #[27, 27] })
    (base : Nat) (v : Value) (n : Nat) (xs : List UInt8) (hs : a.eval s = v) (hown : w.ownsRow base 5 1 v n (bytes xs)) (ad : Addr) (m c : Nat) (ys : List UInt8)
    (hx : a.eval x = .slice (some ad) m c) (hm : ys.length = m) (hy : BytesAt w (some ad) ys) (hn : n + m ≤ 140737488355328) (hb : base ≤ w.heap.size)
    (h : ∀ v' w', w'.ownsRow base 5 1 v' (n + m) (bytes (xs ++ ys)) → Keeps base 5 w w' → K (a.put o.dst v') w') :
    if Region.wanted o (yielded ops a.tmps) = true then Oper.wp Try.prog o a w K Q else E := by
  obtain ⟨i0, hi, hz0, hz1, hz2⟩ := info_parts Try.info5
  have hw : Region.wanted o (yielded ops a.tmps) = true := by simp [Region.wanted, hgd]
  rw [if_pos hw]
  refine wp_append_own w s x 27 ho base 5 i0 (.int .u8 0) 1 1 Try.underlying27 hi hz0 hz1 hz2 rfl (by decide) v n (bytes xs) hs hown ad m c (bytes ys) hx (by rw [bytes_len, hm]; omega) ?_ ?_ ?_ ?_ hb ?_
  · intro j u hj
    have hjl : j < ys.length := by have := (List.getElem?_eq_some_iff.1 hj).1; rwa [bytes_len] at this
    obtain ⟨ad', ha, hc⟩ := hy j hjl
    simp only [Option.some.injEq] at ha
    subst ha
    rw [hc]
    simp [bytes, hjl] at hj
    rw [← hj]
  · intro u hu
    obtain ⟨b, _, rfl⟩ := List.mem_map.1 hu
    rfl
  · unfold maxLen; omega
  · omega
  · intro v' w' h1' h2' _
    refine h v' w' ?_ (Keeps.grown (Keeps.refl _ _ _) hown h2')
    rw [bytes_append]; exact h1'

theorem enc_int_eq (d : Nat) (n : Int) (s : ByteArray) (l : List (M.T d)) : M.enc (d + 1) (1, n, s, l) = 1 :: M.num (M.unsig n).toNat := by simp [M.enc]
theorem enc_text_eq (d : Nat) (n : Int) (s : ByteArray) (l : List (M.T d)) : M.enc (d + 1) (2, n, s, l) = 2 :: (M.num s.size ++ s.data.toList) := by simp [M.enc]
theorem enc_list_eq (d : Nat) (k n : Int) (s : ByteArray) (l : List (M.T d)) (h1 : k ≠ 1) (h2 : k ≠ 2) : M.enc (d + 1) (k, n, s, l) = 3 :: (M.num l.length ++ (l.map (M.enc d)).flatten) := by simp [M.enc, h1, h2]

/-- A box, and a new row of one byte behind it. -/
theorem row_behind (w : World) (o : Obj) (c : Nat) (hc : c < 256) : ((w.alloc o).alloc (.cells #[.int .u8 c] 5)).ownsRow w.heap.size 5 1 (.slice (some ⟨w.heap.size + 1, 0, none⟩) 1 1) 1 (bytes [UInt8.ofNat c]) := by
  have hh := heap_alloc_new (w.alloc o) (.cells #[.int .u8 c] 5)
  have hs : (w.alloc o).heap.size = w.heap.size + 1 := by simp
  rw [hs] at hh
  have := ownsRow_new hh (base := w.heap.size) (by omega) (by omega) (by omega)
  simpa using this

theorem box_kept2 {w w' : World} {B : Nat} {o : Obj} (h : w.heap[B]? = some o) (hb : Below w.heap.size w w') : w'.heap[B]? = some o :=
  (hb.block B (Array.getElem?_eq_some_iff.1 h).1).trans h
theorem below_two (w : World) (o o' : Obj) : Below w.heap.size w ((w.alloc o).alloc o') := ((Below.refl _ _).alloc (Nat.le_refl _) _).alloc (by simp) _

set_option maxHeartbeats 1000000 in
theorem rencode_int (n : Int) (s : ByteArray) (a : Option Addr) (len cap : Nat) (w : World) (h1 : -9223372036854775808 ≤ n) (h2 : n ≤ 9223372036854775807) (bs : List UInt8) (hbs : bs = 1 :: M.num (M.unsig n).toNat) :
    Calls Try.prog 28 #[.agg #[.int .i64 1, .int .i64 n, .string s, .slice a len cap]] w (Made bs w) := by
  have HBS := Lib.hid hbs; clear hbs
  have hu := M.unsig_bd n h1 h2
  have hlb := (M.num_len (M.unsig n).toNat (by omega)).2
  have HO := Lib.hid (row_behind w (.cells #[.int .i64 1, .int .i64 n, .string s, .slice a len cap] 24) 1 (by decide))
  have hbw := below_two w (.cells #[.int .i64 1, .int .i64 n, .string s, .slice a len cap] 24) (.cells #[.int .u8 1] 5)
  go_enter Try.func28, Try.ntmps28
  go_wp2_with fail
  refine (runsigned_any n _ h1 h2).mono ?_
  rintro e w1 ⟨rfl, rfl⟩
  go_wp2_with fail
  refine (rnumeral_any (M.unsig n).toNat _ _ (by omega) (by omega)).mono ?_
  rintro e w2 ⟨g, cap2, rfl, ho2, hb2⟩
  have HB2 := Lib.hid (owns_bytesAt ho2)
  have HO2 := Lib.hid (ownsRow_below HO.out hb2)
  have hbw2 := hbw.trans (hb2.mono hbw.size)
  clear ho2 hb2 hbw HO
  go_wp2_with (at_builtin; refine wpl_cat rfl _ _ rfl w.heap.size _ 1 _ rfl HO2.out ⟨g, 0, none⟩ _ cap2 _ rfl rfl HB2.out (by omega) hbw2.size ?_; intro v' w3 ho3 hk3)
  go_ret
  have hl : 1 + (M.num (M.unsig n).toNat).length = bs.length := by rw [HBS.out, List.length_cons]; omega
  rw [List.singleton_append, show (UInt8.ofNat 1) = 1 from rfl, ← HBS.out, hl] at ho3
  obtain ⟨g3, cap3, rfl, _⟩ := owns_form ho3 (by omega)
  exact ⟨g3, cap3, rfl, ho3, hbw2.trans (hk3.below hbw2.size)⟩

set_option maxHeartbeats 2000000 in
theorem rencode_text (n : Int) (s : ByteArray) (a : Option Addr) (len cap : Nat) (w : World) (hs : s.size ≤ 70368744177664) (bs : List UInt8) (hbs : bs = 2 :: (M.num s.size ++ s.data.toList)) :
    Calls Try.prog 28 #[.agg #[.int .i64 2, .int .i64 n, .string s, .slice a len cap]] w (Made bs w) := by
  have HBS := Lib.hid hbs; clear hbs
  have hlb := (M.num_len s.size (by omega)).2
  have hbox := heap_alloc_new w (.cells #[.int .i64 2, .int .i64 n, .string s, .slice a len cap] 24)
  have hkw : Keeps w.heap.size 5 w (w.alloc (.cells #[.int .i64 2, .int .i64 n, .string s, .slice a len cap] 24)) := (Keeps.refl _ _ _).alloc _
  go_enter Try.func28, Try.ntmps28
  go_wp2_with fail
  generalize hW : w.alloc (.cells #[.int .i64 2, .int .i64 n, .string s, .slice a len cap] 24) = W at *
  have hWs : W.heap.size = w.heap.size + 1 := by rw [← hW]; simp
  have HWS := Lib.hid hWs
  clear hW hWs
  have hc2 : W.cell? ⟨w.heap.size, 2, none⟩ = some (.string s) := by rw [cell_of_row W w.heap.size 2 _ _ _ hbox]; rfl
  have hlt : w.heap.size < W.heap.size := by have := HWS.out; omega
  have hwW : Below w.heap.size w W := hkw.below (Nat.le_refl _)
  have z1 : 0 ≤ ((s.size : Nat) : Int) := by omega
  have z2 : ((s.size : Nat) : Int) ≤ 18446744073709551615 := by omega
  have z3 : s.size < 18446744073709551616 := by omega
  have z4 : 1 + (M.num s.size).length ≤ 140737488355328 := by omega
  have z5 : 1 + (M.num s.size).length + s.size ≤ 140737488355328 := by omega
  have hrow : ((W.alloc (.cells #[.int .u8 2] 5)).drew).ownsRow w.heap.size 5 1 (.slice (some ⟨W.heap.size, 0, none⟩) 1 1) 1 (bytes [2]) :=
    (ownsRow_new (heap_alloc_new W (.cells #[.int .u8 2] 5)) (base := w.heap.size) (by omega) (by decide) (by decide)).drew
  have hbxA : ((W.alloc (.cells #[.int .u8 2] 5)).drew).heap[w.heap.size]? = some (.cells #[.int .i64 2, .int .i64 n, .string s, .slice a len cap] 24 (0, 0)) := (Below.heap_alloc W _ w.heap.size (by omega)).trans hbox
  have hbwA : Below w.heap.size w ((W.alloc (.cells #[.int .u8 2] 5)).drew) := (hwW.alloc (by omega) _).drew
  have hbwD : Below w.heap.size w W.drew := hwW.drew
  have HROW := Lib.hid hrow; have HBXA := Lib.hid hbxA
  have HBXD : Hid (W.drew.heap[w.heap.size]? = some (.cells #[.int .i64 2, .int .i64 n, .string s, .slice a len cap] 24 (0, 0))) := Lib.hid hbox
  clear hrow hbxA
  go_region_held3 (fun w' => w'.cell? ⟨w.heap.size, 2, none⟩ = some (.string s)) (first | go_keep | assumption)
    (first
      | (go_at_call 39; rw [wrap_u64 _ z1 z2]; refine (rnumeral_any s.size _ ((W.alloc (.cells #[.int .u8 2] 5)).drew) z3 rfl).mono ?_; rintro e w1 ⟨g, cap2, rfl, ho1, hb1⟩; have hbw1 := hbwA.trans (hb1.mono hbwA.size); have hr1 := ownsRow_below HROW.out hb1; have hbx1 := box_kept2 HBXA.out hb1; have hby1 := owns_bytesAt ho1; have h2a : w1.cell? ⟨w.heap.size, 2, none⟩ = some (.string s) := (by rw [cell_of_row w1 w.heap.size 2 _ _ _ hbx1]; rfl))
      | (go_at_call 39; rw [wrap_u64 _ z1 z2]; refine (rnumeral_any s.size _ W.drew z3 rfl).mono ?_; rintro e w1 ⟨g, cap2, rfl, ho1, hb1⟩; have hbw0 := hbwD.trans (hb1.mono hbwD.size); have hbw1 := hbw0.alloc hbw0.size (.cells #[.int .u8 2] 5); have hr1 := ownsRow_new (heap_alloc_new w1 (.cells #[.int .u8 2] 5)) (base := w.heap.size) hbw0.size (by decide) (by decide); have hbx0 := box_kept2 HBXD.out hb1; have hbx1 := (Below.heap_alloc w1 (.cells #[.int .u8 2] 5) w.heap.size (Array.getElem?_eq_some_iff.1 hbx0).1).trans hbx0; have hby1 := (owns_bytesAt ho1).kept ((Below.refl _ _).alloc (Nat.le_refl _) (.cells #[.int .u8 2] 5)); have h2a : w1.cell? ⟨w.heap.size, 2, none⟩ = some (.string s) := (by rw [cell_of_row w1 w.heap.size 2 _ _ _ hbx0]; rfl))
      | (refine step_cat rfl _ _ rfl w.heap.size _ 1 [2] rfl hr1 ⟨g, 0, none⟩ _ cap2 (M.num s.size) rfl rfl hby1 z4 hbw1.size ?_; intro v2 w2 ho2 hk2; have hbw2 := hbw1.trans (hk2.below hbw1.size); have hbx2 := hk2.other hbx1 (by decide); have h2b : w2.cell? ⟨w.heap.size, 2, none⟩ = some (.string s) := (by rw [cell_of_row w2 w.heap.size 2 _ _ _ hbx2]; rfl))
      | (refine step_str rfl _ _ rfl w.heap.size _ _ _ rfl ho2 s rfl z5 hbw2.size ?_; intro v3 w3 ho3 hk3; have hbw3 := hbw2.trans (hk3.below hbw2.size); have hbx3 := hk3.other hbx2 (by decide); have h2c : w3.cell? ⟨w.heap.size, 2, none⟩ = some (.string s) := (by rw [cell_of_row w3 w.heap.size 2 _ _ _ hbx3]; rfl)))
  all_goals
    clear h2a h2b h2c hbx1 hbx2 hbx3
    go_wp2_with fail
    go_ret
    have hl : 1 + (M.num s.size).length + s.size = bs.length := by rw [HBS.out, List.length_cons, List.length_append]; simp; omega
    rw [List.singleton_append, List.cons_append, ← HBS.out, hl] at ho3
    obtain ⟨g3, cap3, rfl, _⟩ := owns_form ho3 (by omega)
    exact ⟨g3, cap3, rfl, ho3, hbw3⟩

set_option maxHeartbeats 2000000 in
theorem rencode_list (d : Nat) (k n : Int) (s : ByteArray) (l : List (M.T d)) (a : Option Addr) (cap : Nat) (w : World) (hk1 : k ≠ 1) (hk2 : k ≠ 2) (hlen : l.length ≤ 70368744177664) (hl : Elems w.heap.size w d a l)
    (hsz : 1 + (M.num l.length).length + (l.map (M.enc d)).flatten.length ≤ 35184372088832) (bs : List UInt8) (hbs : bs = 3 :: (M.num l.length ++ (l.map (M.enc d)).flatten))
    (ih : ∀ (x : M.T d), x ∈ l → ∀ (v : Value) (w : World), Rep w.heap.size w d x v → (M.enc d x).length ≤ 35184372088832 → Calls Try.prog 28 #[v] w (Made (M.enc d x) w)) :
    Calls Try.prog 28 #[.agg #[.int .i64 k, .int .i64 n, .string s, .slice a l.length cap]] w (Made bs w) := by
  have HBS := Lib.hid hbs; clear hbs
  have t1 : (k == 1) = false := by simpa using hk1
  have t2 : (k == 2) = false := by simpa using hk2
  have hlb := (M.num_len l.length (by omega)).2
  have HI := Lib.hid ih; clear ih
  have HO := Lib.hid (row_behind w (.cells #[.int .i64 k, .int .i64 n, .string s, .slice a l.length cap] 24) 3 (by decide))
  have hbw := below_two w (.cells #[.int .i64 k, .int .i64 n, .string s, .slice a l.length cap] 24) (.cells #[.int .u8 3] 5)
  have hbx : ((w.alloc (.cells #[.int .i64 k, .int .i64 n, .string s, .slice a l.length cap] 24)).alloc (.cells #[.int .u8 3] 5)).heap[w.heap.size]? = some (.cells #[.int .i64 k, .int .i64 n, .string s, .slice a l.length cap] 24 (0, 0)) := by
    rw [Below.heap_alloc _ _ _ (by simp)]; exact heap_alloc_new w _
  clear hk1 hk2
  go_enter Try.func28, Try.ntmps28
  go_wp2_with fail
  refine (rnumeral_any l.length _ _ (by omega) (by omega)).mono ?_
  rintro e w2 ⟨g, cap2, rfl, ho2, hb2⟩
  have HB2 := Lib.hid (owns_bytesAt ho2)
  have HO2 := Lib.hid (ownsRow_below HO.out hb2)
  have hbw2 := hbw.trans (hb2.mono hbw.size)
  have hbx2 := (hb2.block w.heap.size (Array.getElem?_eq_some_iff.1 hbx).1).trans hbx
  clear ho2 hb2 hbw HO hbx
  obtain ⟨⟨b0, b1, b2, b3⟩, gg⟩ := cells4 hbx2
  clear gg
  go_wp2_with (at_builtin; refine wpl_cat rfl _ _ rfl w.heap.size _ 1 _ rfl HO2.out ⟨g, 0, none⟩ _ cap2 _ rfl rfl HB2.out (by omega) hbw2.size ?_; intro v' w3 ho3 hk3)
  have hbx3 := hk3.other hbx2 (by decide)
  have hk03 : Keeps w.heap.size 5 w w3 := (Below.keeps hbw2).trans hk3
  clear b0 b1 b2 b3 hk3 hbx2 hbw2 HB2 HO2
  go_loopw [3, 4] (fun bb ii wr => ∃ j : Nat, j ≤ l.length ∧ ii = .int .i64 j ∧ wr.ownsRow w.heap.size 5 1 bb (1 + (M.num l.length).length + ((l.take j).map (M.enc d)).flatten.length) (bytes (3 :: (M.num l.length ++ ((l.take j).map (M.enc d)).flatten))) ∧ wr.heap[w.heap.size]? = some (.cells #[.int .i64 k, .int .i64 n, .string s, .slice a l.length cap] 24 (0, 0)) ∧ Keeps w.heap.size 5 w wr)
    (fun _ ii _ => l.length - (intOf ii).toNat)
  case atStart => exact ⟨0, Nat.zero_le _, rfl, by simpa using ho3, hbx3, hk03⟩
  case round =>
    obtain ⟨j, hj, rfl, hown, hbxr, hkr⟩ := hrel
    have hle := M.flat_take_le (M.enc d) l j
    have hbr := hkr.below (Nat.le_refl _)
    have hbs : w.heap.size ≤ wr.heap.size := hkr.size
    obtain ⟨⟨b0, b1, b2, b3⟩, gg⟩ := cells4 hbxr
    clear gg
    by_cases hlt : j < l.length
    · obtain ⟨b, off, kx, nx, sx, ax, lx, px, rfl, hbB, e0, e1, e2, e3, hrep⟩ := hl.at hbr hlt
      have hpart := M.flat_part_le (M.enc d) l j hlt
      have hsnoc := M.flat_snoc (M.enc d) l j hlt
      have hlx : (M.enc d l[j]).length ≤ 35184372088832 := by omega
      have hcx := HI.out l[j] (List.getElem_mem hlt) _ wr (hrep.mono hbs) hlx
      have HC := Lib.hid hcx; have HS := Lib.hid hsnoc; have HOWN := Lib.hid hown
      clear hcx hsnoc hown hrep
      go_wp2_with fail
      refine HC.out.mono ?_
      rintro e w5 ⟨g5, cap5, rfl, ho5, hb5⟩
      have HB5 := Lib.hid (owns_bytesAt ho5)
      have HO5 := Lib.hid (ownsRow_below HOWN.out hb5)
      have hbx5 := (hb5.block w.heap.size (Array.getElem?_eq_some_iff.1 hbxr).1).trans hbxr
      have hk5 : Keeps w.heap.size 5 w w5 := hkr.trans (Below.keeps hb5)
      clear ho5 hb5 HOWN hbxr b0 b1 b2 b3 e0 e1 e2 e3
      go_wp2_with (at_builtin; refine wpl_cat rfl _ _ rfl w.heap.size _ (1 + (M.num l.length).length + ((l.take j).map (M.enc d)).flatten.length) _ rfl HO5.out ⟨g5, 0, none⟩ _ cap5 _ rfl rfl HB5.out (by omega) hk5.size ?_; intro v6 w6 ho6 hk6)
      have hbx6 := hk6.other hbx5 (by decide)
      have hk06 := hk5.trans hk6
      clear hk6 hk5 hbx5 HB5 HO5
      go_wp2_with fail
      go_roundw
      case rel =>
        refine ⟨j + 1, by omega, by go_num, ?_, hbx6, hk06⟩
        rw [HS.out, List.length_append, ← Nat.add_assoc, ← List.append_assoc (M.num l.length)]
        simpa using ho6
      case measure => simp [intOf]; omega
    · obtain rfl : j = l.length := by omega
      rw [List.take_length] at *
      have hl : 1 + (M.num l.length).length + ((l.map (M.enc d)).flatten).length = bs.length := by rw [HBS.out, List.length_cons, List.length_append]; omega
      rw [← HBS.out, hl] at hown
      obtain ⟨g3, cap3, rfl, _⟩ := owns_form hown (by omega)
      have HOWN := Lib.hid hown
      clear hown hl
      go_wp2_with fail
      go_ret
      exact ⟨g3, cap3, rfl, HOWN.out, hbr⟩

/-- encode, at every value. -/
theorem rencode_any : ∀ (d : Nat) (t : M.T d) (v : Value) (w : World), Rep w.heap.size w d t v → (M.enc d t).length ≤ 35184372088832 → Calls Try.prog 28 #[v] w (Made (M.enc d t) w)
  | 0, _, _, _, h, _ => h.elim
  | d + 1, (k, n, s, l), v, w, ⟨h1, h2, h3, h4, a, cap, hv, hl⟩, hsz => by
    subst hv
    by_cases hk1 : k = 1
    · subst hk1
      exact rencode_int n s a l.length cap w h2.1 h2.2 _ (enc_int_eq d n s l)
    · by_cases hk2 : k = 2
      · subst hk2
        have hss : s.size ≤ 70368744177664 := by
          rw [enc_text_eq, List.length_cons, List.length_append] at hsz
          simp at hsz; omega
        exact rencode_text n s a l.length cap w hss _ (enc_text_eq d n s l)
      · have he := enc_list_eq d k n s l hk1 hk2
        rw [he, List.length_cons, List.length_append] at hsz
        exact rencode_list d k n s l a cap w hk1 hk2 h4 hl (by omega) _ he (fun x _ v w hr hx => rencode_any d x v w hr hx)

end Go.Proofs.Ytmhchpdogjbpmaa
