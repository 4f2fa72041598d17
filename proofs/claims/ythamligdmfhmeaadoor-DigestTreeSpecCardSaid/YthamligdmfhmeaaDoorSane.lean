/- The laws' examples hold. -/
import Derived.Test.YthamligdmfhmeaaDoorClimb
import Derived.Lib.SlBytesConst
namespace Go.Proofs.YthamligdmfhmeaaDoor
open Go.RowKit

theorem sum_abc : (H.sum [97, 98, 99]).take 4 = [186, 120, 22, 191] := by decide +kernel
theorem sum_none : (H.sum []).take 4 = [227, 176, 196, 66] := by decide +kernel
theorem take4 {l : List UInt8} {a b c d : UInt8} (h : l.take 4 = [a, b, c, d]) : H.byte l 0 = a.toNat ∧ H.byte l 1 = b.toNat ∧ H.byte l 2 = c.toNat ∧ H.byte l 3 = d.toNat := by
  have g : ∀ i, i < 4 → l[i]? = [a, b, c, d][i]? := fun i hi => by rw [← h, List.getElem?_take_of_lt hi]
  have g0 := g 0 (by decide); have g1 := g 1 (by decide); have g2 := g 2 (by decide); have g3 := g 3 (by decide)
  simp only [H.byte, List.getD_eq_getElem?_getD]
  rw [g0, g1, g2, g3]
  exact ⟨rfl, rfl, rfl, rfl⟩

theorem row3_bytes {w : World} {B : Nat} {fr : Nat × Nat} (h : w.heap[B]? = some (.cells #[.int .u8 97, .int .u8 98, .int .u8 99] 5 fr)) : BytesAt w (some ⟨B, 0, none⟩) [97, 98, 99] := fun i hi => by
  refine ⟨_, rfl, ?_⟩
  have e : (⟨B, 0, none⟩ : Addr).add i = ⟨B, i, none⟩ := by unfold Addr.add; split <;> simp_all
  rw [e, cell_of_row _ _ _ _ _ _ h]
  have h3 : i = 0 ∨ i = 1 ∨ i = 2 := by simp at hi; omega
  rcases h3 with rfl | rfl | rfl <;> rfl
theorem dig_range {w : World} {B : Nat} {d : List UInt8} (h : Dig w B d) : World.rangeAt w B 0 (bytes d) := by
  intro j v hv
  rw [Nat.zero_add, cell_of_row _ _ _ _ _ _ h.1]
  simpa [byts, bytes] using hv
def one32 : List UInt8 := 1 :: List.replicate 31 0
theorem one32_len : one32.length = 32 := rfl
theorem byts_one32 : Tryd.prog.built 24 [(0, .int .u8 1)] = some (byts one32) := by kernel_rfl

theorem wpl_build_parts {ops : Array Oper} {rest : List Oper} {o : Oper} {a : Act} {w : World} {Q : Exit → Act → World → Prop} (hg : o.guard = none) (t : TypeId) (parts : Array (Nat × Operand)) (ho : o.op = .build t parts)
    (cells : Array Value) (hb : Tryd.prog.built t (parts.map fun (i, x) => (i, a.eval x)).toList = some cells) (h : wpList Tryd.prog ops Q rest (a.put o.dst (.agg cells)) w) : wpList Tryd.prog ops Q (o :: rest) a w :=
  wpList_build hg t parts ho (by rw [hb]; rfl) (by rw [hb]; exact h)

set_option maxRecDepth 100000 in
set_option maxHeartbeats 4000000 in
theorem sane_any (w : World) (hK : KT w) :
    Calls Tryd.prog 6 #[] w fun e w' => e = .returned (.bool true) ∧ Below w.heap.size w w' := by
  have HK := Lib.hid hK
  clear hK
  obtain ⟨ra, hra⟩ : ∃ r, H.sum [97, 98, 99] = r := ⟨_, rfl⟩
  obtain ⟨rb, hrb⟩ : ∃ r, H.sum [] = r := ⟨_, rfl⟩
  have hA := take4 sum_abc
  have hB := take4 sum_none
  rw [hra] at hA
  rw [hrb] at hB
  have hal : ra.length = 32 := by rw [← hra]; exact H.sum_len _
  have hbl : rb.length = 32 := by rw [← hrb]; exact H.sum_len _
  have HRA := Lib.hid hra; have HRB := Lib.hid hrb; have HA := Lib.hid hA; have HB := Lib.hid hB; have HAL := Lib.hid hal; have HBL := Lib.hid hbl
  clear hra hrb hA hB hal hbl
  go_enter Tryd.func6, Tryd.ntmps6
  have hcv := Lib.run_convert_bytes_const (P := Tryd.prog) w 22 5 #[.int .u8 97, .int .u8 98, .int .u8 99] 3 3 Tryd.underlying22 Tryd.underlying5
  simp only [List.size_toArray, List.length_cons, List.length_nil] at hcv
  have hb0 : Below w.heap.size w (w.alloc (.cells #[.int .u8 97, .int .u8 98, .int .u8 99] 5 (3, 4))) := (Below.refl _ _).alloc (Nat.le_refl _) _
  have HS1 : Hid (Calls Tryd.prog 18 #[.slice (some ⟨w.heap.size, 0, none⟩) 3 3] (w.alloc (.cells #[.int .u8 97, .int .u8 98, .int .u8 99] 5 (3, 4))) fun e w1 => e = .returned (.agg (byts ra)) ∧ Hid (Below w.heap.size w w1) ∧
      Hid (Calls Tryd.prog 18 #[.slice none 0 0] w1 fun e w2 => e = .returned (.agg (byts rb)) ∧ Hid (Below w.heap.size w w2))) := Lib.hid (by
    refine (sum_any (some ⟨w.heap.size, 0, none⟩) 3 3 [97, 98, 99] _ (HK.out.kept hb0 HK.out.pos) rfl (by decide) (by decide) (row3_bytes (heap_alloc_new w _))).mono ?_
    rintro e w1 ⟨rfl, hb1⟩
    have hb1' := hb0.trans (hb1.mono (by simp))
    refine ⟨by rw [HRA.out], Lib.hid hb1', Lib.hid ?_⟩
    refine (sum_any none 0 0 [] w1 (HK.out.kept hb1' HK.out.pos) rfl (by decide) (by decide) (bytesAt_nil _ _)).mono ?_
    rintro e w2 ⟨rfl, hb2⟩
    exact ⟨by rw [HRB.out], Lib.hid (hb1'.trans (hb2.mono hb1'.size))⟩)
  clear hb0
  go_wp2_with fail
  refine HS1.out.mono ?_
  rintro e w1 ⟨rfl, HB1, HS2⟩
  clear HS1 hcv
  go_wp2_with fail
  refine HS2.out.mono ?_
  rintro e w2 ⟨rfl, HB2⟩
  clear HS2
  rename_i K9 hK9
  refine hK9 _ _ ?_
  clear hK9
  refine wpl_cell rfl rfl ?_
  refine wpl_cell rfl rfl ?_
  refine wpl_put rfl _ _ rfl w2.heap.size zero32 ra rfl rfl ((Dig.new w2 zero32_len).alloc _) HAL.out ?_
  refine wpl_put rfl _ _ rfl (w2.heap.size + 1) zero32 rb (by rw [World.size_alloc]; rfl) rfl (by have := Dig.new (w2.alloc (.cells (byts zero32) 24)) zero32_len; rw [World.size_alloc] at this; exact this.other (by omega) _) HBL.out ?_
  refine wpList_nil ?_
  have HW : Hid (Below w.heap.size w ((((w2.alloc (.cells (byts zero32) 24)).alloc (.cells (byts zero32) 24)).setRow w2.heap.size (byts ra)).setRow (w2.heap.size + 1) (byts rb)) ∧
      Dig ((((w2.alloc (.cells (byts zero32) 24)).alloc (.cells (byts zero32) 24)).setRow w2.heap.size (byts ra)).setRow (w2.heap.size + 1) (byts rb)) w2.heap.size ra ∧
      Dig ((((w2.alloc (.cells (byts zero32) 24)).alloc (.cells (byts zero32) 24)).setRow w2.heap.size (byts ra)).setRow (w2.heap.size + 1) (byts rb)) (w2.heap.size + 1) rb) := Lib.hid (by
    have h0 := HB2.out.size
    have n0 := Dig.new w2 zero32_len
    have n1 := Dig.new (w2.alloc (.cells (byts zero32) 24)) zero32_len
    rw [World.size_alloc] at n1
    exact ⟨below_setRow (below_setRow ((HB2.out.alloc h0 _).alloc (by simp; omega) _) (by omega) _) (by omega) _, ((n0.alloc _).set HAL.out).other (by omega) _, (n1.other (by omega) _).set HBL.out⟩)
  rw [World.size_alloc]
  go_simp
  generalize (((w2.alloc (.cells (byts zero32) 24)).alloc (.cells (byts zero32) 24)).setRow w2.heap.size (byts ra)).setRow (w2.heap.size + 1) (byts rb) = W3 at HW ⊢
  generalize w2.heap.size = g at HW ⊢
  have HP := Lib.hid (path_no none 0 0 0 W3 (.inr (by decide)))
  go_wp2_with (go_at_call 10; (with_reducible refine HP.out.mono ?_); rintro e w1 ⟨rfl, rfl⟩)
  have HC1 : Hid (Calls Tryd.prog 13 #[.agg (byts zero32), .int .i64 0, .int .i64 2, .slice none 0 0] W3 fun e w' => e = .returned (.tuple #[.agg (byts zero32), .int .i64 1]) ∧ Below W3.heap.size W3 w') := Lib.hid (by
    have h := top_in zero32 zero32 false 0 2 0 0 none W3 zero32_len zero32_len (by decide) (by decide) (fun W _ => climb_none zero32 0 2 none 0 W zero32_len (by decide))
    exact h)
  refine (HC1.out).mono ?_
  rintro e w4 ⟨rfl, hb4⟩
  rename_i K9 hK9
  refine hK9 _ _ ?_
  clear hK9 HC1 HP
  iterate 9 go_step
  refine wpl_cell rfl rfl ?_
  refine wpl_put rfl _ _ rfl w4.heap.size zero32 zero32 rfl rfl (Dig.new w4 zero32_len) zero32_len ?_
  go_step
  go_step
  go_step
  refine wpList_nil ?_
  have HW2 : Hid (Below w.heap.size w ((w4.alloc (.cells (byts zero32) 24)).setRow w4.heap.size (byts zero32)) ∧ Dig ((w4.alloc (.cells (byts zero32) 24)).setRow w4.heap.size (byts zero32)) g ra ∧ Dig ((w4.alloc (.cells (byts zero32) 24)).setRow w4.heap.size (byts zero32)) (g + 1) rb) := Lib.hid (by
    obtain ⟨h1, h2, h3⟩ := HW.out
    have l2 := h2.lt; have l3 := h3.lt; have hs := hb4.size; have h1s := h1.size
    exact ⟨below_setRow ((h1.trans (hb4.mono h1s)).alloc (by omega) _) (by omega) _, ((h2.kept hb4 l2).alloc _).other (by omega) _, ((h3.kept hb4 l3).alloc _).other (by omega) _⟩)
  clear HW hb4
  go_simp
  generalize (w4.alloc (.cells (byts zero32) 24)).setRow w4.heap.size (byts zero32) = W5 at HW2 ⊢
  go_step
  go_step
  refine wp_region_list ?_
  refine wpl_build_parts rfl 24 _ rfl (byts one32) (by simpa [Act.eval] using byts_one32) ?_
  go_simp
  have HC2 : Hid (Calls Tryd.prog 13 #[.agg (byts one32), .int .i64 0, .int .i64 1, .slice none 0 0] W5 fun e w' => e = .returned (.tuple #[.agg (byts (H.leaf one32)), .int .i64 0]) ∧ Below W5.heap.size W5 w') := Lib.hid (by
    have h := top_in one32 (H.leaf one32) true 0 1 0 0 none W5 one32_len (H.leaf_len _) (by decide) (by decide) (fun W hW => by
      have h := climb_one one32 0 none 0 0 [] W (HK.out.kept (HW2.out.1.trans (hW.mono HW2.out.1.size)) HK.out.pos) one32_len rfl
      refine h.mono ?_
      rintro e w' ⟨rfl, hb⟩
      exact ⟨by rw [List.reverse_nil, H.climbR_one]; rfl, hb⟩)
    exact h)
  go_wp2_with fail
  refine (HC2.out).mono ?_
  rintro e w6 ⟨rfl, hb6⟩
  obtain ⟨rl, hrl⟩ : ∃ r, H.leaf one32 = r := ⟨_, rfl⟩
  have hll : rl.length = 32 := by rw [← hrl]; exact H.leaf_len _
  rw [hrl]
  have HRL := Lib.hid hrl; have HLL := Lib.hid hll
  clear hrl hll HC2
  rename_i K9 hK9
  refine hK9 _ _ ?_
  clear hK9
  iterate 9 go_step
  refine wpl_cell rfl rfl ?_
  refine wpl_put rfl _ _ rfl w6.heap.size zero32 rl rfl rfl (Dig.new w6 zero32_len) HLL.out ?_
  go_step
  go_step
  go_step
  refine wpList_nil ?_
  have HW3 : Hid (Below w.heap.size w ((w6.alloc (.cells (byts zero32) 24)).setRow w6.heap.size (byts rl)) ∧ Dig ((w6.alloc (.cells (byts zero32) 24)).setRow w6.heap.size (byts rl)) g ra ∧ Dig ((w6.alloc (.cells (byts zero32) 24)).setRow w6.heap.size (byts rl)) (g + 1) rb ∧
      Dig ((w6.alloc (.cells (byts zero32) 24)).setRow w6.heap.size (byts rl)) w6.heap.size rl) := Lib.hid (by
    obtain ⟨h1, h2, h3⟩ := HW2.out
    have l2 := h2.lt; have l3 := h3.lt; have hs := hb6.size; have h1s := h1.size
    exact ⟨below_setRow ((h1.trans (hb6.mono h1s)).alloc (by omega) _) (by omega) _, ((h2.kept hb6 l2).alloc _).other (by omega) _, ((h3.kept hb6 l3).alloc _).other (by omega) _, (Dig.new w6 zero32_len).set HLL.out⟩)
  clear HW2 hb6
  go_simp
  generalize (w6.alloc (.cells (byts zero32) 24)).setRow w6.heap.size (byts rl) = W7 at HW3 ⊢
  generalize w6.heap.size = g7 at HW3 ⊢
  generalize w4.heap.size = g5
  obtain ⟨a0, a1, a2, a3⟩ := HA.out
  obtain ⟨b0, b1, b2, b3⟩ := HB.out
  have ca := fun i (hi : i < 32) => (byts_cell HW3.out.2.1.1 (i := i) (by rw [HAL.out]; exact hi)).1
  have cb := fun i (hi : i < 32) => (byts_cell HW3.out.2.2.1.1 (i := i) (by rw [HBL.out]; exact hi)).1
  have ca0 := ca 0 (by decide); have ca1 := ca 1 (by decide); have ca2 := ca 2 (by decide); have ca3 := ca 3 (by decide)
  have cb0 := cb 0 (by decide); have cb1 := cb 1 (by decide); have cb2 := cb 2 (by decide); have cb3 := cb 3 (by decide)
  rw [a0] at ca0; rw [a1] at ca1; rw [a2] at ca2; rw [a3] at ca3
  rw [b0] at cb0; rw [b1] at cb1; rw [b2] at cb2; rw [b3] at cb3
  simp at ca0 ca1 ca2 ca3 cb0 cb1 cb2 cb3
  clear ca cb a0 a1 a2 a3 b0 b1 b2 b3
  go_wp2_with fail
  clear ca0 ca1 ca2 ca3 cb0 cb1 cb2 cb3
  obtain ⟨re, hre⟩ : ∃ r, H.tagged H.sEmpty [] = r := ⟨_, rfl⟩
  obtain ⟨rc, hrc⟩ : ∃ r, H.chain zero32 zero32 = r := ⟨_, rfl⟩
  have hel : re.length = 32 := by rw [← hre]; exact H.tagged_len _ _
  have hcl : rc.length = 32 := by rw [← hrc, H.chain]; exact H.tagged_len _ _
  have HRE := Lib.hid hre; have HRC := Lib.hid hrc; have HEL := Lib.hid hel; have HCL := Lib.hid hcl
  clear hre hrc hel hcl
  have hbx : Below w.heap.size w (W7.alloc (.cells (byts one32) 24)).drew := (HW3.out.1.alloc HW3.out.1.size _).drew
  have hg7 := HW3.out.2.2.2
  have HT1 : Hid (Calls Tryd.prog 8 #[.slice (some ⟨W7.heap.size, 0, none⟩) 1 1] (W7.alloc (.cells (byts one32) 24)).drew fun e w1 => e = .returned (.agg (byts rl)) ∧ Hid (w1.rangeAt g7 0 (bytes rl)) ∧
      Hid (Calls Tryd.prog 8 #[.slice none 0 0] w1 fun e w2 => e = .returned (.agg (byts re)) ∧ Hid (w2.rangeAt g7 0 (bytes rl)) ∧
      Hid (Calls Tryd.prog 15 #[.string ⟨#[101, 109, 112, 116, 121]⟩, .slice none 0 0] w2 fun e w3 => e = .returned (.agg (byts re)) ∧ Hid (w3.rangeAt g7 0 (bytes rl)) ∧
      Hid ((w3.alloc (.cells (byts (zero32 ++ zero32)) 5)).rangeAt g7 0 (bytes rl)) ∧
      Hid (Calls Tryd.prog 16 #[.agg (byts zero32), .agg (byts zero32)] (w3.alloc (.cells (byts (zero32 ++ zero32)) 5)) fun e w4 => e = .returned (.agg (byts rc)) ∧ Hid (w4.rangeAt g7 0 (bytes rl)) ∧
      Hid (Calls Tryd.prog 15 #[.string ⟨#[99, 104, 97, 105, 110]⟩, .slice (some ⟨w3.heap.size, 0, none⟩) 64 64] w4 fun e w5 => e = .returned (.agg (byts rc)) ∧ Hid (Below w.heap.size w w5 ∧ w5.rangeAt g7 0 (bytes rl)))) ∧
      Hid (Calls Tryd.prog 16 #[.agg (byts zero32), .agg (byts zero32)] w3 fun e w4 => e = .returned (.agg (byts rc)) ∧ Hid (w4.rangeAt g7 0 (bytes rl) ∧ (w4.alloc (.cells (byts (zero32 ++ zero32)) 5)).rangeAt g7 0 (bytes rl)) ∧
      Hid (Calls Tryd.prog 15 #[.string ⟨#[99, 104, 97, 105, 110]⟩, .slice (some ⟨w4.heap.size, 0, none⟩) 64 64] (w4.alloc (.cells (byts (zero32 ++ zero32)) 5)) fun e w5 => e = .returned (.agg (byts rc)) ∧ Hid (Below w.heap.size w w5 ∧ w5.rangeAt g7 0 (bytes rl))))))) := Lib.hid (by
    have hdx : Dig (W7.alloc (.cells (byts one32) 24)).drew g7 rl := hg7.alloc (.cells (byts one32) 24)
    have hone : DigsAt (W7.alloc (.cells (byts one32) 24)).drew (some ⟨W7.heap.size, 0, none⟩) [one32] := ⟨fun d hd => by simp at hd; subst hd; rfl, by
      have h1 : BytesAt (W7.alloc (.cells (byts one32) 24)).drew (some ⟨W7.heap.size, 0, none⟩) one32 := (Dig.new W7 one32_len).bytes
      simpa using h1⟩
    refine (tree_all 1 (some ⟨W7.heap.size, 0, none⟩) 1 1 [one32] _ (by decide) (HK.out.kept hbx HK.out.pos) rfl (by decide) (by decide) hone).mono ?_
    rintro e w1 ⟨rfl, hb1⟩
    have hd1 := hdx.kept hb1 hdx.lt
    have hw1 := hbx.trans (hb1.mono hbx.size)
    refine ⟨by rw [H.tree_one, HRL.out], Lib.hid (dig_range hd1), Lib.hid ?_⟩
    refine (tree_all 0 none 0 0 [] w1 (by decide) (HK.out.kept hw1 HK.out.pos) rfl (by decide) (by decide) ⟨fun d hd => by simp at hd, bytesAt_nil _ _⟩).mono ?_
    rintro e w2 ⟨rfl, hb2⟩
    have hd2 := hd1.kept hb2 hd1.lt
    have hw2 := hw1.trans (hb2.mono hw1.size)
    refine ⟨by rw [H.tree_nil, HRE.out], Lib.hid (dig_range hd2), Lib.hid ?_⟩
    refine (tagged_any ⟨#[101, 109, 112, 116, 121]⟩ none 0 0 [] w2 (HK.out.kept hw2 HK.out.pos) (by decide) rfl (by decide) (bytesAt_nil _ _)).mono ?_
    rintro e w3 ⟨rfl, hb3⟩
    have hd3 := hd2.kept hb3 hd2.lt
    have hw3 := hw2.trans (hb3.mono hw2.size)
    have hd3x : Dig (w3.alloc (.cells (byts (zero32 ++ zero32)) 5)) g7 rl := hd3.alloc _
    have hw3x : Below w.heap.size w (w3.alloc (.cells (byts (zero32 ++ zero32)) 5)) := hw3.alloc hw3.size _
    refine ⟨by rw [← HRE.out]; rfl, Lib.hid (dig_range hd3), Lib.hid (dig_range hd3x), Lib.hid ?_, Lib.hid ?_⟩
    · refine (chain_any zero32 zero32 _ (HK.out.kept hw3x HK.out.pos) zero32_len zero32_len).mono ?_
      rintro e w4 ⟨rfl, hb4⟩
      have hd4 := hd3x.kept hb4 hd3x.lt
      have hw4 := hw3x.trans (hb4.mono hw3x.size)
      refine ⟨by rw [HRC.out], Lib.hid (dig_range hd4), Lib.hid ?_⟩
      refine (tagged_any ⟨#[99, 104, 97, 105, 110]⟩ (some ⟨w3.heap.size, 0, none⟩) 64 64 (zero32 ++ zero32) w4 (HK.out.kept hw4 HK.out.pos) (by decide) rfl (by decide) ((BytesAt.row (heap_alloc_new w3 _)).kept hb4)).mono ?_
      rintro e w5 ⟨rfl, hb5⟩
      exact ⟨by rw [← HRC.out]; rfl, Lib.hid ⟨hw4.trans (hb5.mono hw4.size), dig_range (hd4.kept hb5 hd4.lt)⟩⟩
    refine (chain_any zero32 zero32 w3 (HK.out.kept hw3 HK.out.pos) zero32_len zero32_len).mono ?_
    rintro e w4 ⟨rfl, hb4⟩
    have hd4 := hd3.kept hb4 hd3.lt
    have hw4 := hw3.trans (hb4.mono hw3.size)
    have hd4x : Dig (w4.alloc (.cells (byts (zero32 ++ zero32)) 5)) g7 rl := hd4.alloc _
    have hw4x : Below w.heap.size w (w4.alloc (.cells (byts (zero32 ++ zero32)) 5)) := hw4.alloc hw4.size _
    refine ⟨by rw [HRC.out], Lib.hid ⟨dig_range hd4, dig_range hd4x⟩, Lib.hid ?_⟩
    refine (tagged_any ⟨#[99, 104, 97, 105, 110]⟩ (some ⟨w4.heap.size, 0, none⟩) 64 64 (zero32 ++ zero32) _ (HK.out.kept hw4x HK.out.pos) (by decide) rfl (by decide) (BytesAt.row (heap_alloc_new w4 _))).mono ?_
    rintro e w5 ⟨rfl, hb5⟩
    exact ⟨by rw [← HRC.out]; rfl, Lib.hid ⟨hw4x.trans (hb5.mono hw4x.size), dig_range (hd4x.kept hb5 hd4x.lt)⟩⟩)
  have hS0 : W7.drew.rangeAt g7 0 (bytes rl) := dig_range hg7
  have hS1 : (W7.alloc (.cells (byts one32) 24)).drew.rangeAt g7 0 (bytes rl) := dig_range (hg7.alloc (.cells (byts one32) 24))
  have hS0' := Lib.hid hS0; have hS1' := Lib.hid hS1
  clear hS0 hS1 hbx hg7
  have hu := Tryd.underlying24
  have hsz : (Tryd.prog.info? 24).map (·.size) = some (bytes rl).length := by rw [bytes_len, HLL.out]; kernel_rfl
  have hmk : ∀ W : World, (Instr.makeSlice 22 (.int .i64 64) (.int .i64 64)).run Tryd.prog W = .ok (.slice (some ⟨W.heap.size, 0, none⟩) 64 64) (W.alloc (.cells (byts (zero32 ++ zero32)) 5)) := fun W => by kernel_rfl
  have heg : Tryd.prog.eqGuardType Tryd.prog.depth 24 = false := by kernel_rfl
  have hq1 : ∀ W, (Op.equalIn 10000 24 (.agg (bytes rl).toArray) (.agg (byts rl))).run Tryd.prog W = .ok true W := fun W => run_eq_same rl HLL.out W
  have hq2 : ∀ W, (Op.equalIn 10000 24 (.agg (byts re)) (.agg (byts re))).run Tryd.prog W = .ok true W := fun W => run_eq_same re HEL.out W
  have hq3 : ∀ W, (Op.equalIn 10000 24 (.agg (byts rc)) (.agg (byts rc))).run Tryd.prog W = .ok true W := fun W => run_eq_same rc HCL.out W
  go_wp2_with fail
  go_region_held3 (fun w' => w'.rangeAt g7 0 (bytes rl)) (first | exact hS0'.out | exact hS1'.out | exact HS1.out | exact HS2.out | exact HS3.out | exact HS3x.out | exact HS4.out.1 | exact HS4.out.2 | exact HS4x.out | exact HS5.out.2)
    (first
      | (go_at_call 8; refine HT1.out.mono ?_; rintro e w1 ⟨rfl, HS1, HT2⟩; clear HT1)
      | (go_at_call 8; refine HT2.out.mono ?_; rintro e w2 ⟨rfl, HS2, HT3⟩; clear HT2)
      | (go_at_call 15; refine HT3.out.mono ?_; rintro e w3 ⟨rfl, HS3, HS3x, HT4x, HT4⟩; clear HT3)
      | (go_at_call 16; refine HT4.out.mono ?_; rintro e w4 ⟨rfl, HS4, HT5⟩; clear HT4 HT4x)
      | (go_at_call 16; refine HT4x.out.mono ?_; rintro e w4 ⟨rfl, HS4x, HT5x⟩; clear HT4 HT4x)
      | (go_at_call 15; refine HT5.out.mono ?_; rintro e w5 ⟨rfl, HS5⟩; clear HT5)
      | (go_at_call 15; refine HT5x.out.mono ?_; rintro e w5 ⟨rfl, HS5⟩; clear HT5x))
  all_goals
    go_wp2_with fail
    go_ret
    exact ⟨by simp, HS5.out.1⟩

end Go.Proofs.YthamligdmfhmeaaDoor
