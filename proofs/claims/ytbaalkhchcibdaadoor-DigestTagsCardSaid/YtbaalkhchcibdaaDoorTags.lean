/- The law of the tags. -/
import Derived.Test.YtbaalkhchcibdaaDoorSane
import Derived.Test.YtbaalkhchcibdaaDoorJoin
namespace Go.Proofs.YtbaalkhchcibdaaDoor
open Go.RowKit

set_option maxRecDepth 100000 in
set_option maxHeartbeats 4000000 in
theorem tags_walk (tag : ByteArray) (a : Option Addr) (n cap : Nat) (bs : List UInt8) (w : World) (hK : KT w) (hn : bs.length = n) (hc : n ≤ cap) (hb : BytesAt w a bs) :
    Calls Tryd.prog 5 #[.string tag, .slice a n cap] w fun e w' => e = .returned (.bool true) ∧ Below w.heap.size w w' := by
  have HK := Lib.hid hK; have HB := Lib.hid hb; have HN := Lib.hid hn; have HCAP := Lib.hid hc
  clear hK hb hn hc
  have HS := Lib.hid (sane_any w HK.out)
  go_enter Tryd.func5, Tryd.ntmps5
  go_wp2_with fail
  refine HS.out.mono ?_
  rintro e w1 ⟨rfl, hb1⟩
  have HW := Lib.hid hb1
  clear hb1 HS
  by_cases h1 : 600 < tag.size
  · have h1' : (600 : Int) < (tag.size : Int) := by omega
    go_wp2_with fail
    go_ret
    exact ⟨rfl, HW.out⟩
  have h1' : ¬ (600 : Int) < (tag.size : Int) := by omega
  by_cases h2 : 600 < n
  · have h2' : (600 : Int) < (n : Int) := by omega
    go_wp2_with fail
    go_ret
    exact ⟨rfl, HW.out⟩
  have h2' : ¬ (600 : Int) < (n : Int) := by omega
  go_wp2_with fail
  clear h1' h2'
  obtain ⟨tcap, wt, hconv, htc, htb, htw⟩ := string_bytes w1 tag
  have hwt : Below w.heap.size w wt := HW.out.trans (htw.mono HW.out.size)
  have HS := Lib.hid (sum_any (some ⟨w1.heap.size, 0, none⟩) tag.size tcap tag.data.toList wt (HK.out.kept hwt HK.out.pos) (str_len tag) (by omega) htc htb)
  have HWT := Lib.hid hwt
  clear htc htb htw hwt HW
  obtain ⟨t, ht⟩ : ∃ t, H.sum tag.data.toList = t := ⟨_, rfl⟩
  have htl : t.length = 32 := by rw [← ht]; exact H.sum_len _
  have hr : H.tagged tag.data.toList bs = H.sum (t ++ bs) := by rw [H.tagged, ht]
  obtain ⟨r, hrr⟩ : ∃ r, H.sum (t ++ bs) = r := ⟨_, rfl⟩
  have hrl : r.length = 32 := by rw [← hrr]; exact H.sum_len _
  rw [hrr] at hr
  rw [ht] at HS
  have HTL := Lib.hid htl; have HR := Lib.hid hr; have HRR := Lib.hid hrr; have HRL := Lib.hid hrl
  clear ht htl hr hrr hrl
  rw [hconv]
  clear hconv
  go_wp2_with fail
  refine HS.out.mono ?_
  rintro e w2 ⟨rfl, hb2⟩
  clear HS
  rename_i K9 hK9
  refine hK9 _ _ ?_
  clear hK9
  refine wpl_cell rfl rfl ?_
  refine wpl_put rfl _ _ rfl w2.heap.size zero32 t rfl rfl (Dig.new w2 zero32_len) HTL.out ?_
  refine wpList_nil ?_
  have HW : Hid (Below w.heap.size w ((w2.alloc (.cells (byts zero32) 26)).setRow w2.heap.size (byts t)) ∧ Dig ((w2.alloc (.cells (byts zero32) 26)).setRow w2.heap.size (byts t)) w2.heap.size t) := Lib.hid (by
    have h0 := HWT.out.trans (hb2.mono HWT.out.size)
    exact ⟨below_setRow (h0.alloc h0.size _) h0.size _, (Dig.new w2 zero32_len).set HTL.out⟩)
  clear hb2 HWT
  go_simp
  generalize (w2.alloc (.cells (byts zero32) 26)).setRow w2.heap.size (byts t) = W at HW ⊢
  generalize w2.heap.size = g at HW ⊢
  go_wp2_with fail
  have HT : Hid (∀ V, Below W.heap.size W V → Calls Tryd.prog 14 #[.string tag, .slice a n cap] V fun e w' => e = .returned (.agg (byts r)) ∧ Hid (Below W.heap.size W w' ∧ Below V.heap.size V w')) := Lib.hid (fun V hV => by
    have hv := HW.out.1.trans (hV.mono HW.out.1.size)
    refine (tagged_any tag a n cap bs V (HK.out.kept hv HK.out.pos) (by omega) HN.out (by omega) (HB.out.kept hv)).mono ?_
    rintro e w' ⟨rfl, hb⟩
    exact ⟨by rw [HR.out], Lib.hid ⟨hV.trans (hb.mono hV.size), hb⟩⟩)
  have HU : Hid (∀ V A c, Below W.heap.size W V → V.ownsRow W.heap.size 5 1 (.slice A (0 + 32 + n) c) (0 + 32 + n) (bytes (([] ++ t) ++ bs)) → Calls Tryd.prog 12 #[.slice A (0 + 32 + n) c] V fun e w' => e = .returned (.agg (byts r)) ∧ Hid (Below W.heap.size W w')) := Lib.hid (fun V A c hV ho => by
    have hv := HW.out.1.trans (hV.mono HW.out.1.size)
    obtain ⟨hc, hby⟩ := owns_slice ho
    refine (sum_any A (0 + 32 + n) c (([] ++ t) ++ bs) V (HK.out.kept hv HK.out.pos) (by simp [HTL.out, HN.out]) (by omega) hc hby).mono ?_
    rintro e w' ⟨rfl, hb⟩
    exact ⟨by rw [← HRR.out]; rfl, Lib.hid (hV.trans (hb.mono hV.size))⟩)
  have harr := array_all g
  have hq : ∀ W, (Op.equalIn 10000 26 (.agg (byts r)) (.agg (byts r))).run Tryd.prog W = .ok true W := fun W => run_eq_same r HRL.out W
  have heg : Tryd.prog.eqGuardType Tryd.prog.depth 26 = false := by kernel_rfl
  have HI : Hid (Below W.heap.size W W.drew) := Lib.hid (Below.refl _ _).drew
  go_region_held3 (fun _ => True) (trivial)
    (first
      | (go_at_call 14; refine (HT.out _ HI.out).mono ?_; rintro e w3 ⟨rfl, HI1⟩; clear HT; have HS := Lib.hid (owns_kept HS.out HI1.out.2); have HI := Lib.hid HI1.out.1; clear HI1)
      | (go_at_call 14; refine (HT.out _ HI.out).mono ?_; rintro e w3 ⟨rfl, HI1⟩; clear HT; have HI := Lib.hid HI1.out.1; clear HI1)
      | (go_at_call 14; refine (HT.out _ (HI.out.alloc HI.out.size _)).mono ?_; rintro e w3 ⟨rfl, HI1⟩; clear HT; have HS := Lib.hid (owns_kept (owns_none W.heap.size _ HI.out.size) HI1.out.2); have HI := Lib.hid HI1.out.1; clear HI1)
      | (refine step_cat rfl _ _ (by rfl) W.heap.size _ 0 [] (by rfl) (owns_none W.heap.size _ HI.out.size) (some ⟨g, 0, none⟩) 32 32 t (by rfl) HTL.out (HW.out.2.kept (HI.out.alloc HI.out.size _) HW.out.2.lt).bytes (by decide) (HI.out.alloc HI.out.size _).size ?_; intro A' c' w4 HS hk; have HI := Lib.hid ((HI.out.alloc HI.out.size _).trans (hk.below (HI.out.alloc HI.out.size _).size)); have HS := Lib.hid HS; clear hk)
      | (refine step_cat rfl _ _ (by rfl) W.heap.size _ 0 [] (by rfl) HS.out (some ⟨g, 0, none⟩) 32 32 t (by rfl) HTL.out (HW.out.2.kept HI.out HW.out.2.lt).bytes (by decide) HI.out.size ?_; intro A' c' w4 HS hk; have HI := Lib.hid (HI.out.trans (hk.below HI.out.size)); have HS := Lib.hid HS; clear hk)
      | (refine step_cat rfl _ _ (by rfl) W.heap.size _ (0 + 32) ([] ++ t) (by rfl) HS.out a n cap bs (by rfl) HN.out (HB.out.kept (HW.out.1.trans (HI.out.mono HW.out.1.size))) (by omega) HI.out.size ?_; intro A' c' w5 HS hk; have HI := Lib.hid (HI.out.trans (hk.below HI.out.size)); have HS := Lib.hid HS; clear hk)
      | (go_at_call 12; refine (HU.out _ _ _ HI.out HS.out).mono ?_; rintro e w6 ⟨rfl, HI1⟩; clear HU; have HI := HI1; clear HI1))
  all_goals
    go_wp2_with fail
    go_ret
    exact ⟨rfl, HW.out.1.trans (HI.out.mono HW.out.1.size)⟩

end Go.Proofs.YtbaalkhchcibdaaDoor
