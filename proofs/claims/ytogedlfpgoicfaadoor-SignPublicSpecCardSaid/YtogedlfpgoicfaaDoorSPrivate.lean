/- Contract of Private. -/
import Derived.Test.YtogedlfpgoicfaaDoorSLaw
namespace Go.Proofs.YtogedlfpgoicfaaDoor
open Go.RowKit

/-- '[]byte(s)', as an equation for every world. -/
theorem string_conv (w : World) (s : ByteArray) :
    (convert 9 22 (.string s)).run Tryd.prog w = .ok (.slice (some ⟨w.heap.size, 0, none⟩) s.size (grownCap w s.size 0 5)) (w.drew.alloc (.cells (bytesRow s (grownCap w s.size 0 5)) 5 ((bytesRow s (grownCap w s.size 0 5)).size, (bytesRow s (grownCap w s.size 0 5)).size + 1))) :=
  run_bytes_of_string (P := Tryd.prog) w 9 22 5 s Tryd.underlying9 Tryd.underlying22 Tryd.underlying5

/-- The bytes of a string that was converted. -/
theorem string_row (w : World) (s : ByteArray) (c : Nat) (fr : Nat × Nat) : BytesAt (w.alloc (.cells (bytesRow s c) 5 fr)) (some ⟨w.heap.size, 0, none⟩) s.data.toList := fun i hi => by
  refine ⟨_, rfl, ?_⟩
  have hb := bytesRow_at s c i (by simpa using hi)
  have he : (⟨w.heap.size, 0, none⟩ : Addr).add i = ⟨w.heap.size, i, none⟩ := by unfold Addr.add; split <;> simp_all
  rw [he, cell_of_row _ w.heap.size i _ _ _ (heap_alloc_new w _), hb]
  simp

theorem pv2 {V w : World} (h : Below V.drew.drew.heap.size V.drew.drew w) : Below V.heap.size V w := (Below.refl V.heap.size V).drew.drew.trans h
theorem pv3 {V w : World} {k : Nat} {l : List UInt8} (hk : V.heap.size = k) (h : BytesAt w (some ⟨V.drew.drew.heap.size, 0, none⟩) l) : BytesAt w (some ⟨k, 0, none⟩) l := by
  subst hk; exact h

set_option maxRecDepth 100000 in
set_option maxHeartbeats 2000000 in
theorem private_any (d : List UInt8) (label : ByteArray) (n : Int) (w : World) (hK : KT w) (hd : d.length = 32) (hl : label.size ≤ 100000) :
    Calls Tryd.prog 44 #[.agg (byts d), .string label, .int .i64 n] w fun e w' => e = .returned (.int .i64 (G.scal G.tagPrivate (d ++ (G.num8 n ++ label.data.toList)) : Nat)) ∧ Below w.heap.size w w' := by
  have HK := Lib.hid hK; have HD := Lib.hid hd
  clear hK hd
  have hcv := fun W => string_conv W label
  go_enter Tryd.func44, Tryd.ntmps44
  go_wp2_with fail
  have HW0 : Hid (Below w.heap.size w (w.alloc (.cells (byts d) 26)) ∧ Dig (w.alloc (.cells (byts d) 26)) w.heap.size d) := Lib.hid ⟨(Below.refl _ _).alloc (Nat.le_refl _) _, Dig.new w HD.out⟩
  have HWW : Hid (Below w.heap.size w (w.alloc (.cells (byts d) 26))) := Lib.hid HW0.out.1
  generalize w.alloc (.cells (byts d) 26) = W0 at HW0 HWW ⊢
  obtain ⟨g, hg⟩ : ∃ g, w.heap.size = g := ⟨_, rfl⟩
  have HGG := Lib.hid hg
  rw [hg] at HW0
  rw [hg]
  clear hg
  have harr := array_all g
  have HS2 : Hid (∀ (V : World) (B C : Option Addr) (q cz : Nat), q = V.heap.size → Below W0.heap.size W0 V → BytesAt V B (G.num8 n) → BytesAt V C label.data.toList →
      Calls Tryd.prog 90 #[.string ⟨#[112, 114, 105, 118, 97, 116, 101]⟩, .slice (some ⟨q, 0, none⟩) 3 3] (V.alloc (.cells #[.slice (some ⟨g, 0, none⟩) 32 32, .slice B 8 8, .slice C label.size cz] 22))
        fun e w' => e = .returned (.int .i64 (G.scal G.tagPrivate (d ++ (G.num8 n ++ label.data.toList)) : Nat)) ∧ Hid (Below w.heap.size w w')) := Lib.hid fun V B C q cz hq hV hB hC => by
    subst hq
    have hwV : Below w.heap.size w V := HWW.out.trans (hV.mono HWW.out.size)
    have hk := HK.out.kept hwV HK.out.pos
    have h3 := concat3_any (some ⟨g, 0, none⟩) B C 32 8 label.size 32 8 cz d (G.num8 n) label.data.toList V ((HW0.out.2.kept hV HW0.out.2.lt).bytes) hB hC HD.out (G.num8_len n) (str_len label) (by omega)
    refine (sscalar_any ⟨#[112, 114, 105, 118, 97, 116, 101]⟩ _ (32 + 8 + label.size) (d ++ (G.num8 n ++ label.data.toList)) _ V (by decide) (by simp [HD.out, G.num8_len]; omega) (by omega) (Lib.hid h3) hk).mono ?_
    rintro e w' ⟨rfl, hb⟩
    exact ⟨rfl, Lib.hid (hwV.trans (hb.mono hwV.size))⟩
  have HS : Hid (∀ (V : World) (B C : Option Addr) (q cz : Nat), q = V.heap.size → Below W0.heap.size W0 V → BytesAt V B (G.num8 n) → BytesAt V C label.data.toList →
      Calls Tryd.prog 90 #[.string ⟨#[112, 114, 105, 118, 97, 116, 101]⟩, .slice (some ⟨q, 0, none⟩) 3 3] ((V.alloc (.cells #[.slice (some ⟨g, 0, none⟩) 32 32, .slice B 8 8, .slice C label.size cz] 22)).drew)
        fun e w' => e = .returned (.int .i64 (G.scal G.tagPrivate (d ++ (G.num8 n ++ label.data.toList)) : Nat)) ∧ Hid (Below w.heap.size w w')) := Lib.hid fun V B C q cz hq hV hB hC =>
    HS2.out V.drew B C q cz hq hV.drew hB hC
  go_region_law (first
    | (go_simp; go_at_call 91; (with_reducible refine (number_any n _).mono ?_); rintro e wn ⟨rfl, hyn, hbn⟩)
    | (go_simp; go_at_call 90; refine (HS.out (wn.alloc _) _ _ _ _ (by simp) (((Below.refl W0.heap.size W0).drew.trans hbn).alloc hbn.size _) (hyn.kept ((Below.refl _ _).alloc (Nat.le_refl _) _)) (string_row wn label _ _)).mono ?_; rintro e wz ⟨rfl, HZ⟩)
    | (go_simp; go_at_call 90; refine (HS2.out wn _ _ _ _ rfl (((Below.refl W0.heap.size W0).alloc (Nat.le_refl _) _).trans ((pv2 hbn).mono (by simp))) (pv3 (by simp) hyn) ((string_row W0 label _ _).kept (pv2 hbn))).mono ?_; rintro e wz ⟨rfl, HZ⟩))
  all_goals
    go_wp2_with fail
    go_ret
    exact ⟨rfl, HZ.out⟩

end Go.Proofs.YtogedlfpgoicfaaDoor
