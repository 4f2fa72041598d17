/- Contract of the reference's climb, whole. -/
import Derived.Test.YthamligdmfhmeaaDoorRClimb
namespace Go.Proofs.YthamligdmfhmeaaDoor
open Go.RowKit

set_option maxRecDepth 100000 in
set_option maxHeartbeats 4000000 in
theorem rclimb_one (d : List UInt8) (at_ : Nat) (a : Option Addr) (p cap : Nat) (w : World) (hd : d.length = 32) :
    Calls Tryd.prog 29 #[.agg (byts d), .int .i64 at_, .int .i64 1, .slice a p cap] w fun e w' => e = .returned (.agg (byts (H.leaf d))) ∧ Below w.heap.size w w' := by
  have HDL := Lib.hid hd
  clear hd
  obtain ⟨t, ht⟩ : ∃ t, H.leaf d = t := ⟨_, rfl⟩
  have htl : t.length = 32 := by rw [← ht]; exact H.leaf_len _
  rw [ht]
  have HT := Lib.hid ht; have HTL := Lib.hid htl
  clear ht htl
  go_enter Tryd.func29, Tryd.ntmps29
  go_step
  go_step
  refine wp_region_list ?_
  refine wpl_box rfl 24 _ rfl (byts d) rfl ?_
  refine wpl_cell rfl rfl ?_
  refine wpList_nil ?_
  rename_i K1 hK1
  refine hK1 _ _ ?_
  clear hK1
  have HW := Lib.hid (boxes1 w HDL.out)
  go_simp
  generalize (w.alloc (.cells (byts d) 24)).alloc (.cells (byts zero32) 24) = W1 at HW ⊢
  have har := array_all w.heap.size
  have HT2 := Lib.hid (rtagged_any ⟨#[108, 101, 97, 102]⟩ (some ⟨w.heap.size, 0, none⟩) 32 32 d W1 (by decide) HDL.out (by decide) HW.out.2.1.bytes)
  go_wp2_with fail
  refine HT2.out.mono ?_
  rintro e w4 ⟨rfl, hb⟩
  rename_i K9 hK9
  refine hK9 _ _ ?_
  clear hK9
  have hd2 := HW.out.2.2.kept hb HW.out.2.2.lt
  have hbw := HW.out.1.trans (hb.mono HW.out.1.size)
  rw [show H.tagged (⟨#[108, 101, 97, 102]⟩ : ByteArray).data.toList d = t from HT.out]
  refine wpl_put rfl _ _ rfl (w.heap.size + 1) _ t rfl rfl hd2 HTL.out ?_
  refine wpList_nil ?_
  have HZ := Lib.hid (And.intro (hd2.set HTL.out) (below_setRow (C := w.heap.size + 1) hbw (by omega) (byts t)))
  clear hd2 hbw hb
  go_wp2_with fail
  refine bodyPost_ret (v := .agg (byts t)) ?_ rfl ⟨rfl, HZ.out.2⟩
  exact ret_dig Tryd.results29 _ _ (w.heap.size + 1) _ rfl HZ.out.1

theorem rclimb_all : ∀ (p : Nat) (d : List UInt8) (at_ n : Nat) (a : Option Addr) (cap : Nat) (ds : List (List UInt8)) (w : World), d.length = 32 → ds.length = p → p ≤ cap → 1 ≤ n → n ≤ 1099511627776 → at_ < n → p ≤ 1099511627776 → DigsAt w a ds → (H.climbR d at_ n ds.reverse).2 = true →
    Calls Tryd.prog 29 #[.agg (byts d), .int .i64 at_, .int .i64 n, .slice a p cap] w fun e w' => e = .returned (.agg (byts (H.climbR d at_ n ds.reverse).1)) ∧ Below w.heap.size w w'
  | 0, d, at_, n, a, cap, ds, w, hd, hp, _, _, _, _, _, _, hok => by
    by_cases h1 : n = 1
    · subst h1; have e : (H.climbR d at_ 1 ds.reverse).1 = H.leaf d := by rw [H.climbR_one]
      rw [e]; clear e hok; exact rclimb_one d at_ a 0 cap w hd
    · have hds : ds = [] := List.length_eq_zero_iff.1 hp
      subst hds
      rw [List.reverse_nil, H.climbR_nil _ _ _ h1] at hok
      cases hok
  | p + 1, d, at_, n, a, cap, ds, w, hd, hp, hc, hn, hl, ha, hpl, hda, hok => by
    by_cases h1 : n = 1
    · subst h1; have e : (H.climbR d at_ 1 ds.reverse).1 = H.leaf d := by rw [H.climbR_one]
      rw [e]; clear e hok; exact rclimb_one d at_ a (p + 1) cap w hd
    · have hne : ds ≠ [] := by intro h; subst h; simp at hp
      obtain ⟨es, x, rfl⟩ : ∃ es x, ds = es ++ [x] := ⟨ds.dropLast, ds.getLast hne, (List.dropLast_concat_getLast hne).symm⟩
      have hpe : es.length = p := by simpa using hp
      have hde : DigsAt w a es := by
        have h := hda.take p
        rwa [show (es ++ [x]).take p = es from by rw [← hpe]; simp] at h
      obtain ⟨_, hs1, _⟩ := H.split_bounds (n := n) (by omega) hl
      have hsp := H.split_pos n
      rw [List.reverse_append, List.reverse_singleton, List.singleton_append] at hok ⊢
      obtain ⟨k, hke⟩ : ∃ k, H.split n = k := ⟨_, rfl⟩
      have hL := @rclimb_left d at_ n a p (p + 1) cap rfl es x
      have hR := @rclimb_right d at_ n a p (p + 1) cap rfl es x
      by_cases hk : at_ < H.split n
      · rw [H.climbR_left _ _ _ h1 _ _ hk] at hok ⊢
        dsimp only at hok ⊢
        have hrl := H.climbR_len d at_ (H.split n) es.reverse
        rw [hke] at hrl hok hk hs1 hsp hL ⊢
        have hI : ∀ W, Below w.heap.size w W → Calls Tryd.prog 29 #[.agg (byts d), .int .i64 at_, .int .i64 (k : Nat), .slice a p cap] W fun e w' => e = .returned (.agg (byts (H.climbR d at_ k es.reverse).1)) ∧ Below W.heap.size W w' := fun W hW =>
          rclimb_all p d at_ k a cap es W hd hpe (by omega) hsp (by omega) hk (by omega) (hde.kept hW) hok
        clear hok
        generalize (H.climbR d at_ k es.reverse).1 = r at hrl hI ⊢
        exact hL r w hd hrl hpe hc (by omega) hl hk (by omega) hda hI
      · rw [H.climbR_right _ _ _ h1 _ _ hk] at hok ⊢
        dsimp only at hok ⊢
        have hrl := H.climbR_len d (at_ - H.split n) (n - H.split n) es.reverse
        rw [hke] at hrl hok hk hs1 hsp hR ⊢
        have hI : ∀ W, Below w.heap.size w W → Calls Tryd.prog 29 #[.agg (byts d), .int .i64 (at_ - k : Nat), .int .i64 (n - k : Nat), .slice a p cap] W fun e w' => e = .returned (.agg (byts (H.climbR d (at_ - k) (n - k) es.reverse).1)) ∧ Below W.heap.size W w' := fun W hW =>
          rclimb_all p d (at_ - k) (n - k) a cap es W hd hpe (by omega) (by omega) (by omega) (by omega) (by omega) (hde.kept hW) hok
        clear hok
        generalize (H.climbR d (at_ - k) (n - k) es.reverse).1 = r at hrl hI ⊢
        exact hR r w hd hrl hpe hc (by omega) hl hk ha (by omega) hda hI

end Go.Proofs.YthamligdmfhmeaaDoor
