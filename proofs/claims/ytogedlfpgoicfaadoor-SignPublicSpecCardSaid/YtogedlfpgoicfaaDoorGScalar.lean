/- Contract of group's Scalar. -/
import Derived.Test.YtogedlfpgoicfaaDoorGPow
import Derived.Test.YtogedlfpgoicfaaDoorTagged
import Derived.Test.YtogedlfpgoicfaaDoorPair
import Derived.Test.YtogedlfpgoicfaaDoorEq
namespace Go.Proofs.YtogedlfpgoicfaaDoor
open Go.RowKit Go.Shelf

namespace G
/-- The rest of a number of bytes. -/
def rest (m : Nat) (l : List UInt8) : Nat := l.foldl (fun r x => (r * 256 % m + x.toNat) % m) 0
theorem rest_snoc (m : Nat) (l : List UInt8) (x : UInt8) : rest m (l ++ [x]) = (rest m l * 256 % m + x.toNat) % m := by simp [rest]
theorem rest_lt (m : Nat) (h : 0 < m) : ∀ l, rest m l < m := by
  intro l
  rcases List.eq_nil_or_concat l with rfl | ⟨l', x, rfl⟩
  · exact h
  · rw [List.concat_eq_append, rest_snoc]; exact Nat.mod_lt _ h
end G

set_option maxRecDepth 100000 in
set_option maxHeartbeats 1000000 in
theorem fold_any (x r m z gr gm : Nat) (w : World) (hx : x < 256) (hr : r < m) (hm1 : 1152921504606846976 ≤ m) (hm2 : m < 4611686018427387904) (HZ : Hid (z = (r * 256 % m + x) % m)) (hcr : Boxed w gr 3 (.int .i64 r)) (hcm : Boxed w gm 3 (.int .i64 m)) :
    Calls Tryd.prog 106 #[.int .u8 x, .pointer (some ⟨gr, 0, none⟩), .pointer (some ⟨gm, 0, none⟩)] w fun e w' => e = .returned (.tuple #[]) ∧ ∃ n, w' = (w.drewN n).setCell ⟨gr, 0, none⟩ (.int .i64 z) := by
  obtain ⟨p, hp⟩ : ∃ p, p = r * 256 % m := ⟨_, rfl⟩
  have hpl : p < m := by rw [hp]; exact Nat.mod_lt _ (by omega)
  have HP : Hid (∀ W : World, Calls Tryd.prog 79 #[.int .i64 r, .int .i64 256, .int .i64 m] W fun e w' => e = .returned (.int .i64 p) ∧ ∃ n, w' = W.drewN n) := Lib.hid fun W => product_any r 256 m p W hm1 hm2 hr (by omega) (Lib.hid hp)
  have hz2 : (p + x) % m = z := by rw [HZ.out, hp]
  obtain ⟨s, hs⟩ : ∃ s, s = p + x := ⟨_, rfl⟩
  have e1 : (p : Int) + (x : Int) = (s : Int) := by omega
  have e2 : (s : Int) % (m : Int) = (z : Int) := by rw [← hz2, ← hs]; exact (Int.natCast_emod s m).symm
  have e3 : (s : Int).tmod (m : Int) = (z : Int) := by rw [Int.tmod_eq_emod_of_nonneg (by omega), e2]
  have hzl : z < m := by rw [← hz2]; exact Nat.mod_lt _ (by omega)
  have v1 : IntKind.i64.wrap ((p : Int) + (x : Int)) = (s : Int) := by rw [IntKind.wrap_i64]; omega
  have v2 : IntKind.i64.wrap (x : Int) = (x : Int) := by rw [IntKind.wrap_i64]; omega
  have v3 : IntKind.i64.wrap (z : Int) = (z : Int) := by rw [IntKind.wrap_i64]; omega
  have v4 : IntKind.i64.wrap (s : Int) = (s : Int) := by rw [IntKind.wrap_i64]; omega
  have hsl : s < 9223372036854775807 := by omega
  have hm0 : ((m : Int) == 0) = false := by simp; omega
  have hm0' : ¬ m = 0 := by omega
  have c1 := hcr.cell
  have c2 := hcm.cell
  have f1 := hcr.frozen
  clear hp hz2 hs HZ hcr hcm hm1
  go_enter Tryd.func106, Tryd.ntmps106
  go_region_law (first | (go_simp; go_at_call 79; (with_reducible refine (HP.out _).mono ?_); rintro e w' ⟨rfl, n, rfl⟩; have k1 : (w.drew.drewN n).cell? ⟨gr, 0, none⟩ = some (.int .i64 r) := c1; have k2 : (w.drew.drewN n).cell? ⟨gm, 0, none⟩ = some (.int .i64 m) := c2; have k3 : (w.drew.drewN n).frozen? ⟨gr, 0, none⟩ = false := f1))
  all_goals
    go_end0
    exact ⟨rfl, _, rfl⟩

/-- An element of a digest by value. -/
theorem index32 (d : List UInt8) (hd : d.length = 32) (i : Nat) (hi : i < 32) (W : World) : (Instr.index 26 (.agg (byts d)) (.int .i64 (i : Nat))).run Tryd.prog W = .ok (.int .u8 (H.byte d i : Nat)) W := by
  simp [Instr.index, go_sem]
  rw [if_pos hi, byts_at (by omega)]
  simp [H.byte, hd, hi]

set_option maxRecDepth 100000 in
set_option maxHeartbeats 2000000 in
theorem remainder_any (d : List UInt8) (m z : Nat) (w : World) (hd : d.length = 32) (hm1 : 1152921504606846976 ≤ m) (hm2 : m < 4611686018427387904) (HZ : Hid (z = G.rest m d)) :
    Calls Tryd.prog 81 #[.agg (byts d), .int .i64 m] w fun e w' => e = .returned (.int .i64 z) ∧ Below w.heap.size w w' := by
  have HD := Lib.hid hd
  clear hd
  go_enter Tryd.func81, Tryd.ntmps81
  go_step
  go_step
  refine wp_region_list ?_
  refine wpl_box rfl 26 _ rfl (byts d) rfl ?_
  iterate 6 go_step
  refine wpList_nil ?_
  rename_i K1 hK1
  refine hK1 _ _ ?_
  clear hK1
  go_simp
  go_upto_region 3 with (fail)
  have HW : Hid (Dig (((w.alloc (.cells (byts d) 26)).alloc (.cells #[.int .i64 m] 3)).alloc (.cells #[.int .i64 0] 3)) w.heap.size d ∧
      Boxed (((w.alloc (.cells (byts d) 26)).alloc (.cells #[.int .i64 m] 3)).alloc (.cells #[.int .i64 0] 3)) (w.heap.size + 1) 3 (.int .i64 m) ∧
      Boxed (((w.alloc (.cells (byts d) 26)).alloc (.cells #[.int .i64 m] 3)).alloc (.cells #[.int .i64 0] 3)) (w.heap.size + 1 + 1) 3 (.int .i64 0) ∧
      Below w.heap.size w (((w.alloc (.cells (byts d) 26)).alloc (.cells #[.int .i64 m] 3)).alloc (.cells #[.int .i64 0] 3))) := Lib.hid (by
    have b2 := Boxed.new (w.alloc (.cells (byts d) 26)) 3 (.int .i64 m)
    have b3 := Boxed.new ((w.alloc (.cells (byts d) 26)).alloc (.cells #[.int .i64 m] 3)) 3 (.int .i64 0)
    rw [World.size_alloc] at b2 b3
    rw [World.size_alloc] at b3
    exact ⟨((Dig.new w HD.out).alloc _).alloc _, b2.alloc _, b3, (((Below.refl _ _).alloc (Nat.le_refl _) _).alloc (by simp) _).alloc (by simp; omega) _⟩)
  generalize ((w.alloc (.cells (byts d) 26)).alloc (.cells #[.int .i64 m] 3)).alloc (.cells #[.int .i64 0] 3) = W1 at HW ⊢
  refine wp_region_list ?_
  refine wpl_get rfl _ rfl w.heap.size d rfl HW.out.1 ?_
  go_wp2_with fail
  go_loopw [11] (fun ii wr => ∃ i : Nat, i ≤ 32 ∧ ii = .int .i64 i ∧ Hid (Boxed wr (w.heap.size + 1 + 1) 3 (.int .i64 (G.rest m (d.take i) : Nat)) ∧ Boxed wr (w.heap.size + 1) 3 (.int .i64 m) ∧ Below w.heap.size w wr)) (fun ii _ => 32 - (intOf ii).toNat)
  case atStart => exact ⟨0, Nat.zero_le _, rfl, Lib.hid ⟨HW.out.2.2.1, HW.out.2.1, HW.out.2.2.2⟩⟩
  case round =>
    clear HW
    obtain ⟨i, hi, rfl, HR⟩ := hrel
    by_cases hlt : i < 32
    · have hix := fun W => index32 d HD.out i hlt W
      have hxl := H.byte_lt d i
      obtain ⟨x, hx⟩ : ∃ x, x = H.byte d i := ⟨_, rfl⟩
      rw [← hx] at hix hxl
      have hsn : G.rest m (d.take (i + 1)) = (G.rest m (d.take i) * 256 % m + x) % m := by
        rw [List.take_succ_eq_append_getElem (by rw [HD.out]; exact hlt), G.rest_snoc, hx, H.byte]
        simp [HD.out, hlt]
      have hrl := G.rest_lt m (by omega) (d.take i)
      obtain ⟨r, hr⟩ : ∃ r, r = G.rest m (d.take i) := ⟨_, rfl⟩
      rw [← hr] at hsn hrl HR
      have HF := Lib.hid (fold_any x r m _ (w.heap.size + 1 + 1) (w.heap.size + 1) wr hxl hrl hm1 hm2 (Lib.hid hsn) HR.out.1 HR.out.2.1)
      clear hx hsn hr hrl
      go_wp2_with (go_at_call 106; (with_reducible refine HF.out.mono ?_); rintro e w' ⟨rfl, n, rfl⟩)
      go_roundw
      case rel => exact ⟨i + 1, by omega, by go_num, Lib.hid ⟨(G.Boxed.drewN HR.out.1 n).set _, (G.Boxed.drewN HR.out.2.1 n).other (by omega) _, (G.Below.drewN HR.out.2.2 n).setCell (by simp; omega) _⟩⟩
      case measure => simp [intOf]; omega
    · obtain rfl : i = 32 := by omega
      have hz : G.rest m (d.take 32) = z := by rw [HZ.out, List.take_of_length_le (by rw [HD.out]; exact Nat.le_refl _)]
      rw [hz] at HR
      have hc := HR.out.1.cell
      clear hz hlt hi
      go_wp2_with fail
      go_ret
      exact ⟨rfl, HR.out.2.2⟩

set_option maxRecDepth 100000 in
set_option maxHeartbeats 1000000 in
theorem scalar_any (tag : ByteArray) (a : Option Addr) (n cap z : Nat) (bs : List UInt8) (w : World) (hK : KT w) (ht : tag.size ≤ 274877906944) (hn : bs.length = n) (hl : n ≤ 274877906944) (hb : BytesAt w a bs) (HZ : Hid (z = 1 + G.rest 2305843009213688668 (H.tagged tag.data.toList bs))) :
    Calls Tryd.prog 36 #[.string tag, .slice a n cap] w fun e w' => e = .returned (.int .i64 z) ∧ Below w.heap.size w w' := by
  have HT := Lib.hid (tagged_any tag a n cap bs w hK ht hn hl hb)
  have hlen := H.tagged_len tag.data.toList bs
  obtain ⟨d, hd⟩ : ∃ d, d = H.tagged tag.data.toList bs := ⟨_, rfl⟩
  rw [← hd] at hlen HT HZ
  have hrl := G.rest_lt 2305843009213688668 (by decide) d
  obtain ⟨r, hr⟩ : ∃ r, r = G.rest 2305843009213688668 d := ⟨_, rfl⟩
  have HR : Hid (∀ W : World, Calls Tryd.prog 81 #[.agg (byts d), .int .i64 2305843009213688668] W fun e w' => e = .returned (.int .i64 r) ∧ Below W.heap.size W w') := Lib.hid fun W => remainder_any d 2305843009213688668 r W hlen (by decide) (by decide) (Lib.hid hr)
  rw [← hr] at hrl HZ
  have hz := HZ.out
  have e1 : 1 + (r : Int) = (z : Int) := by omega
  clear hd hlen hr hz hK ht hn hl hb
  go_enter Tryd.func36, Tryd.ntmps36
  go_wp2_with fail
  refine HT.out.mono ?_
  rintro e w1 ⟨rfl, hb1⟩
  have HB := Lib.hid hb1
  clear hb1
  go_wp2_with (go_at_call 81; (with_reducible refine (HR.out _).mono ?_); rintro e w2 ⟨rfl, hb2⟩; have HB2 := Lib.hid (HB.out.trans (hb2.mono HB.out.size)); clear hb2)
  go_ret
  exact ⟨rfl, HB2.out⟩

end Go.Proofs.YtogedlfpgoicfaaDoor
