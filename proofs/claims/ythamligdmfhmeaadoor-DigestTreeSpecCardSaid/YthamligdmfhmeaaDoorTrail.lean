/- Paths and climbing in numbers: how many steps, and where a path leads. -/
import Derived.Test.YthamligdmfhmeaaDoorPath
import Derived.Test.YthamligdmfhmeaaDoorClimbAll
namespace Go.Proofs.YthamligdmfhmeaaDoor
open Go.RowKit

namespace H
/-- How many steps an index has from the root. -/
def stp : Nat → Nat → Nat → Nat
  | 0, _, _ => 0
  | f + 1, i, n => if n ≤ 1 then 0 else if i < split n then stp f i (split n) + 1 else stp f (i - split n) (n - split n) + 1
theorem stp_eq : ∀ (f g i n : Nat), n ≤ f → n ≤ g → n ≤ 1099511627776 → i < n → stp f i n = stp g i n
  | 0, _, i, n, h, _, _, hi => by omega
  | _, 0, i, n, _, h, _, hi => by omega
  | f + 1, g + 1, i, n, hf, hg, hl, hi => by
    by_cases h1 : n ≤ 1
    · simp [stp, h1]
    · obtain ⟨_, h2, _⟩ := split_bounds (n := n) (by omega) hl
      have hp := split_pos n
      by_cases h : i < split n
      · rw [stp, stp, if_neg h1, if_neg h1, if_pos h, if_pos h, stp_eq f g i _ (by omega) (by omega) (by omega) h]
      · rw [stp, stp, if_neg h1, if_neg h1, if_neg h, if_neg h, stp_eq f g (i - split n) _ (by omega) (by omega) (by omega) (by omega)]
/-- Climbing is refused but along a path with as many elements as there are steps. -/
theorem climb_ok (d : List UInt8) : ∀ (f i n : Nat) (q : List (List UInt8)), 1 ≤ n → n ≤ f → n ≤ 1099511627776 → i < n → (climbR d i n q).2 = decide (q.length = stp f i n)
  | 0, i, n, q, h1, h2, _, _ => by omega
  | f + 1, i, n, q, h1, h2, hl, hi => by
    by_cases h : n = 1
    · subst h
      rw [climbR_one, stp, if_pos (Nat.le_refl _)]
      cases q <;> simp
    · have hn : ¬ n ≤ 1 := by omega
      cases q with
      | nil =>
        rw [climbR_nil _ _ _ h, stp, if_neg hn]
        split <;> simp
      | cons x r =>
        obtain ⟨_, h3, _⟩ := split_bounds (n := n) (by omega) hl
        have hp := split_pos n
        by_cases hk : i < split n
        · rw [climbR_left _ _ _ h _ _ hk, stp, if_neg hn, if_pos hk]
          dsimp only
          rw [climb_ok d f i _ r hp (by omega) (by omega) hk]
          simp
        · rw [climbR_right _ _ _ h _ _ hk, stp, if_neg hn, if_neg hk]
          dsimp only
          rw [climb_ok d f _ _ r (by omega) (by omega) (by omega) (by omega)]
          simp
/-- A path has as many elements as there are steps. -/
theorem sibs_steps : ∀ (f i : Nat) (l : List (List UInt8)), l.length ≤ f → l.length ≤ 1099511627776 → i < l.length → (sibsF f l i).length = stp f i l.length
  | 0, i, l, h, _, hi => by omega
  | f + 1, i, l, h, hl, hi => by
    by_cases h1 : l.length ≤ 1
    · rw [sibsF_one f l i h1, stp, if_pos h1]; rfl
    · obtain ⟨_, h3, _⟩ := split_bounds (n := l.length) (by omega) hl
      have hp := split_pos l.length
      by_cases hk : i < split l.length
      · rw [sibsF_left (by omega) rfl hk, stp, if_neg h1, if_pos hk, List.length_append, sibs_steps f i _ (by rw [List.length_take]; omega) (by rw [List.length_take]; omega) (by rw [List.length_take]; omega)]
        rw [List.length_take, Nat.min_eq_left (by omega)]
        rfl
      · rw [sibsF_right (by omega) rfl hk, stp, if_neg h1, if_neg hk, List.length_append, sibs_steps f _ _ (by rw [List.length_drop]; omega) (by rw [List.length_drop]; omega) (by rw [List.length_drop]; omega)]
        rw [List.length_drop]
        rfl
/-- A path leads to the digest of the list. -/
theorem climb_sibs : ∀ (f i : Nat) (l : List (List UInt8)) (d : List UInt8), l.length ≤ f → l.length ≤ 1099511627776 → l[i]? = some d → climbR d i l.length (sibsF f l i).reverse = (tree l, true)
  | 0, i, l, d, h, _, hi => by
    have := (List.getElem?_eq_some_iff.1 hi).1
    omega
  | f + 1, i, l, d, h, hl, hi => by
    have hil := (List.getElem?_eq_some_iff.1 hi).1
    by_cases h1 : l.length ≤ 1
    · have h11 : l.length = 1 := by omega
      obtain ⟨x, rfl⟩ := List.length_eq_one_iff.1 h11
      have hi0 : i = 0 := by simp at hil; exact hil
      subst hi0
      have hxd : x = d := by simpa using hi
      subst hxd
      rw [sibsF_one f [x] 0 (by simp), tree_one]
      exact climbR_one x 0 []
    · obtain ⟨_, h3, _⟩ := split_bounds (n := l.length) (by omega) hl
      have hp := split_pos l.length
      have ht := tree_cut (l := l) (by omega) hl
      by_cases hk : i < split l.length
      · rw [sibsF_left (by omega) rfl hk, List.reverse_append, List.reverse_singleton, List.singleton_append, climbR_left _ _ _ (by omega) _ _ hk]
        have ih := climb_sibs f i (l.take (split l.length)) d (by rw [List.length_take]; omega) (by rw [List.length_take]; omega) (by rw [List.getElem?_take_of_lt hk]; exact hi)
        rw [List.length_take, Nat.min_eq_left (by omega)] at ih
        rw [ih, ht]
      · rw [sibsF_right (by omega) rfl hk, List.reverse_append, List.reverse_singleton, List.singleton_append, climbR_right _ _ _ (by omega) _ _ hk]
        have ih := climb_sibs f (i - split l.length) (l.drop (split l.length)) d (by rw [List.length_drop]; omega) (by rw [List.length_drop]; omega) (by rw [List.getElem?_drop]; rw [show split l.length + (i - split l.length) = i by omega]; exact hi)
        rw [List.length_drop] at ih
        rw [ih, ht]
theorem stp_small : ∀ n, n < 25 → ∀ i, i < n → stp n i n ≤ 5 := by decide +kernel
end H

/-- Climb, at any place of a list. -/
theorem top_all (d : List UInt8) (at_ n p cap : Nat) (a : Option Addr) (ds : List (List UInt8)) (w : World) (hK : KT w) (hd : d.length = 32) (hp : ds.length = p) (hpc : p ≤ cap) (h1 : at_ < n) (h2 : n ≤ 1099511627776) (hpl : p ≤ 1099511627776) (hda : DigsAt w a ds) :
    Calls Tryd.prog 13 #[.agg (byts d), .int .i64 at_, .int .i64 n, .slice a p cap] w fun e w' =>
      e = .returned (.tuple #[.agg (byts (if (H.climbR d at_ n ds.reverse).2 then (H.climbR d at_ n ds.reverse).1 else zero32)), .int .i64 (if (H.climbR d at_ n ds.reverse).2 then 0 else 1)]) ∧ Below w.heap.size w w' :=
  top_in d _ _ at_ n p cap a w hd (H.climbR_len _ _ _ _) h1 h2 fun W hW => (climb_all p d at_ n a cap ds W (hK.kept hW hK.pos) hd hp hpc (by omega) h2 h1 hpl (hda.kept hW))

end Go.Proofs.YthamligdmfhmeaaDoor
