/- Lists of digests in memory; trees in numbers. -/
import Derived.Test.YthamligdmfhmeaaDoorSplit
namespace Go.Proofs.YthamligdmfhmeaaDoor
open Go.RowKit

namespace H
theorem flat_len {ds : List (List UInt8)} (h : ∀ d ∈ ds, d.length = 32) : ds.flatten.length = 32 * ds.length := by
  induction ds with
  | nil => rfl
  | cons d r ih =>
    rw [List.flatten_cons, List.length_append, h d (by simp), ih (fun x hx => h x (by simp [hx])), List.length_cons]
    omega
theorem flat_drop {ds : List (List UInt8)} (h : ∀ d ∈ ds, d.length = 32) : ∀ k, (ds.drop k).flatten = ds.flatten.drop (32 * k)
  | 0 => by simp
  | k + 1 => by
    cases ds with
    | nil => simp
    | cons d r =>
      rw [List.drop_succ_cons, flat_drop (fun x hx => h x (by simp [hx])) k, List.flatten_cons, show 32 * (k + 1) = d.length + 32 * k from by rw [h d (by simp)]; omega, List.drop_append]
      simp
theorem flat_take {ds : List (List UInt8)} (h : ∀ d ∈ ds, d.length = 32) : ∀ k, (ds.take k).flatten = ds.flatten.take (32 * k)
  | 0 => by simp
  | k + 1 => by
    cases ds with
    | nil => simp
    | cons d r =>
      rw [List.take_succ_cons, List.flatten_cons, flat_take (fun x hx => h x (by simp [hx])) k, List.flatten_cons, show 32 * (k + 1) = d.length + 32 * k from by rw [h d (by simp)]; omega, List.take_append]
      simp
      exact (List.take_of_length_le (by omega)).symm

/-- The digest of a list. -/
def treeF : Nat → List (List UInt8) → List UInt8
  | 0, _ => []
  | _ + 1, [] => tagged sEmpty []
  | _ + 1, [d] => leaf d
  | f + 1, d :: e :: r => node (treeF f ((d :: e :: r).take (split (r.length + 2)))) (treeF f ((d :: e :: r).drop (split (r.length + 2))))
def tree (l : List (List UInt8)) : List UInt8 := treeF (l.length + 1) l
theorem treeF_eq : ∀ (f g : Nat) (l : List (List UInt8)), l.length < f → l.length < g → l.length ≤ 1099511627776 → treeF f l = treeF g l
  | 0, _, _, h, _, _ => absurd h (by omega)
  | _ + 1, 0, _, _, h, _ => absurd h (by omega)
  | _ + 1, _ + 1, [], _, _, _ => by simp only [treeF]
  | _ + 1, _ + 1, [_], _, _, _ => by simp only [treeF]
  | f + 1, g + 1, d :: e :: r, h1, h2, h3 => by
    simp only [List.length_cons] at h1 h2 h3
    have hs := split_bounds (n := r.length + 2) (by omega) (by omega)
    have hp := split_pos (r.length + 2)
    simp only [treeF]
    rw [treeF_eq f g _ (by simp; omega) (by simp; omega) (by simp; omega), treeF_eq f g _ (by simp; omega) (by simp; omega) (by simp; omega)]
theorem tree_nil : tree [] = tagged sEmpty [] := by simp only [tree, treeF]
theorem tree_one (d : List UInt8) : tree [d] = leaf d := by simp only [tree, treeF]
theorem tree_cut : ∀ {l : List (List UInt8)}, 2 ≤ l.length → l.length ≤ 1099511627776 → tree l = node (tree (l.take (split l.length))) (tree (l.drop (split l.length)))
  | [], h, _ => absurd h (by simp)
  | [_], h, _ => absurd h (by simp)
  | d :: e :: r, _, hl => by
    have hll : (d :: e :: r).length = r.length + 2 := rfl
    rw [hll] at hl ⊢
    have hs := split_bounds (n := r.length + 2) (by omega) hl
    have hp := split_pos (r.length + 2)
    obtain ⟨k, hk⟩ : ∃ k, split (r.length + 2) = k := ⟨_, rfl⟩
    have l1 : ((d :: e :: r).take k).length = k := by rw [List.length_take, hll]; omega
    have l2 : ((d :: e :: r).drop k).length = r.length + 2 - k := by rw [List.length_drop, hll]
    have e1 := treeF_eq (r.length + 2) (((d :: e :: r).take k).length + 1) ((d :: e :: r).take k) (by omega) (by omega) (by omega)
    have e2 := treeF_eq (r.length + 2) (((d :: e :: r).drop k).length + 1) ((d :: e :: r).drop k) (by omega) (by omega) (by omega)
    rw [hk]
    have e0 : tree (d :: e :: r) = node (treeF (r.length + 2) ((d :: e :: r).take k)) (treeF (r.length + 2) ((d :: e :: r).drop k)) := by
      rw [tree, hll, treeF, hk]
    rw [e0, e1, e2, tree, tree]
theorem treeF_len : ∀ f l, (treeF (f + 1) l).length = 32
  | _, [] => by rw [treeF]; exact tagged_len _ _
  | _, [_] => by rw [treeF, leaf]; exact tagged_len _ _
  | _, _ :: _ :: _ => by rw [treeF, node]; exact tagged_len _ _
theorem tree_len (l : List (List UInt8)) : (tree l).length = 32 := treeF_len _ _
end H

/-- A slice's memory reads as these digests. -/
def DigsAt (w : World) (a : Option Addr) (ds : List (List UInt8)) : Prop := (∀ d ∈ ds, d.length = 32) ∧ BytesAt w a ds.flatten
theorem DigsAt.kept {w w' : World} {a : Option Addr} {ds : List (List UInt8)} (h : DigsAt w a ds) (hb : Below w.heap.size w w') : DigsAt w' a ds := ⟨h.1, h.2.kept hb⟩
theorem BytesAt.take {w : World} {a : Option Addr} {bs : List UInt8} (n : Nat) (h : BytesAt w a bs) : BytesAt w a (bs.take n) := fun i hi => by
  rw [List.length_take] at hi
  obtain ⟨ad, ha, hc⟩ := h i (by omega)
  exact ⟨ad, ha, by rw [hc]; simp⟩
theorem DigsAt.take {w : World} {a : Option Addr} {ds : List (List UInt8)} (k : Nat) (h : DigsAt w a ds) : DigsAt w a (ds.take k) :=
  ⟨fun d hd => h.1 d (List.mem_of_mem_take hd), by rw [H.flat_take h.1]; exact h.2.take _⟩
/-- 'l[:k]'. -/
theorem digs_head (a : Option Addr) (n cap k : Nat) (hk : k ≤ n) (hc : n ≤ cap) (W : World) :
    (Instr.slice 26 (.slice a n cap) none (some (.int .i64 (k : Int))) none).run Tryd.prog W = .ok (.slice a k cap) W := by
  rw [run_slice_h (P := Tryd.prog) (w := W) 26 a n cap (by kernel_rfl) .i64 (k : Int) (by omega) (by omega)]
  have hs : (sizeOf (Tryd.prog.elem 26)).run Tryd.prog W = .ok 32 W := by kernel_rfl
  rw [hs]
  simp only [Result.andThen, sliced, Int.toNat_natCast]
  cases a with
  | none => simp
  | some ad => simp [Addr.add]
/-- 'l[k:]'. -/
theorem digs_tail (a : Option Addr) (n cap k : Nat) (hk : k ≤ n) (hc : n ≤ cap) (ds : List (List UInt8)) (hn : ds.length = n) :
    ∃ a' c', (∀ W : World, (Instr.slice 26 (.slice a n cap) (some (.int .i64 (k : Int))) none none).run Tryd.prog W = .ok (.slice a' (n - k) c') W) ∧ n - k ≤ c' ∧ ∀ w, DigsAt w a ds → DigsAt w a' (ds.drop k) := by
  refine ⟨if cap = k then a else a.map (·.add (k * 32)), cap - k, fun W => ?_, by omega, fun w h => ⟨fun d hd => h.1 d (List.mem_of_mem_drop hd), fun j hj => ?_⟩⟩
  · rw [run_slice_l (P := Tryd.prog) (w := W) 26 a n cap (by kernel_rfl) .i64 (k : Int) (by omega) (by omega)]
    have hs : (sizeOf (Tryd.prog.elem 26)).run Tryd.prog W = .ok 32 W := by kernel_rfl
    rw [hs]
    simp only [Result.andThen, sliced, Int.toNat_natCast]
  · have hl := H.flat_len h.1
    have e := H.flat_drop h.1 k
    have hj2 : j < (ds.flatten.drop (32 * k)).length := by rw [← e]; exact hj
    rw [List.length_drop] at hj2
    obtain ⟨ad, had, hcell⟩ := h.2 (32 * k + j) (by omega)
    rw [if_neg (by omega), had]
    refine ⟨ad.add (k * 32), rfl, ?_⟩
    rw [add_add, Nat.mul_comm k 32, hcell]
    simp [e]

end Go.Proofs.YthamligdmfhmeaaDoor
