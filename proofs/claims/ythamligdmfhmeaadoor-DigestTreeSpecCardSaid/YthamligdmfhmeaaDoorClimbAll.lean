/- Contract of climb, whole. -/
import Derived.Test.YthamligdmfhmeaaDoorClimbs
namespace Go.Proofs.YthamligdmfhmeaaDoor
open Go.RowKit

theorem climb_all : ∀ (p : Nat) (d : List UInt8) (at_ n : Nat) (a : Option Addr) (cap : Nat) (ds : List (List UInt8)) (w : World), KT w → d.length = 32 → ds.length = p → p ≤ cap → 1 ≤ n → n ≤ 1099511627776 → at_ < n → p ≤ 1099511627776 → DigsAt w a ds →
    Calls Tryd.prog 27 #[.agg (byts d), .int .i64 at_, .int .i64 n, .slice a p cap] w (ClimbRes d at_ n ds w)
  | 0, d, at_, n, a, cap, ds, w, hK, hd, hp, _, _, _, _, _, _ => by
    by_cases h1 : n = 1
    · subst h1; exact climb_one d at_ a 0 cap ds w hK hd hp
    · have hds : ds = [] := List.length_eq_zero_iff.1 hp
      subst hds
      refine (climb_none d at_ n a cap w hd (by omega)).mono ?_
      rintro e w' ⟨rfl, hb⟩
      exact ⟨by rw [List.reverse_nil, H.climbR_nil _ _ _ h1], hb⟩
  | p + 1, d, at_, n, a, cap, ds, w, hK, hd, hp, hc, hn, hl, ha, hpl, hda => by
    by_cases h1 : n = 1
    · subst h1; exact climb_one d at_ a (p + 1) cap ds w hK hd hp
    · have hne : ds ≠ [] := by intro h; subst h; simp at hp
      obtain ⟨es, x, rfl⟩ : ∃ es x, ds = es ++ [x] := ⟨ds.dropLast, ds.getLast hne, (List.dropLast_concat_getLast hne).symm⟩
      have hpe : es.length = p := by simpa using hp
      have hde : DigsAt w a es := by
        have h := hda.take p
        rwa [show (es ++ [x]).take p = es from by rw [← hpe]; simp] at h
      obtain ⟨_, hs1, _⟩ := H.split_bounds (n := n) (by omega) hl
      have hsp := H.split_pos n
      by_cases hk : at_ < H.split n
      · exact climb_left d at_ n a p (p + 1) cap rfl es x w hK hd hpe hc (by omega) hl hk (by omega) hda (fun W hW =>
          climb_all p d at_ (H.split n) a cap es W (hK.kept hW hK.pos) hd hpe (by omega) hsp (by omega) hk (by omega) (hde.kept hW))
      · exact climb_right d at_ n a p (p + 1) cap rfl es x w hK hd hpe hc (by omega) hl hk ha (by omega) hda (fun W hW =>
          climb_all p d (at_ - H.split n) (n - H.split n) a cap es W (hK.kept hW hK.pos) hd hpe (by omega) (by omega) (by omega) (by omega) (by omega) (hde.kept hW))

end Go.Proofs.YthamligdmfhmeaaDoor
