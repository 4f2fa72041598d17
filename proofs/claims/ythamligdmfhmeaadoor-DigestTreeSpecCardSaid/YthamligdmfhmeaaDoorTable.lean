/- Contract of the reference's table of numbers. -/
import Derived.Test.YthamligdmfhmeaaDoorHash
import Derived.Deep.WholeRow
import Derived.Great.BuildSlice
namespace Go.Proofs.YthamligdmfhmeaaDoor
open Go.RowKit

namespace H
/-- The numbers K. -/
def K : List Nat := [1116352408, 1899447441, 3049323471, 3921009573, 961987163, 1508970993, 2453635748, 2870763221, 3624381080, 310598401, 607225278, 1426881987, 1925078388, 2162078206, 2614888103, 3248222580, 3835390401, 4022224774, 264347078, 604807628, 770255983, 1249150122, 1555081692, 1996064986, 2554220882, 2821834349, 2952996808, 3210313671, 3336571891, 3584528711, 113926993, 338241895, 666307205, 773529912, 1294757372, 1396182291, 1695183700, 1986661051, 2177026350, 2456956037, 2730485921, 2820302411, 3259730800, 3345764771, 3516065817, 3600352804, 4094571909, 275423344, 430227734, 506948616, 659060556, 883997877, 958139571, 1322822218, 1537002063, 1747873779, 1955562222, 2024104815, 2227730452, 2361852424, 2428436474, 2756734187, 3204031479, 3329325298]
end H
/-- Words in memory. -/
def words (l : List Nat) : Array Value := ((l.map fun n : Nat => (n : Int)).map (Value.int .u32)).toArray
theorem words_size (l : List Nat) : (words l).size = l.length := by simp [words]
theorem words_at {l : List Nat} {i : Nat} (h : i < l.length) : (words l)[i]? = some (.int .u32 (l[i] : Nat)) := by simp [words, h]
theorem words_one (l : List Nat) : (words l).all (·.oneCell') = true := by
  rw [Array.all_eq_true]; intro i h; simp [words, Value.oneCell']
theorem words_set (l : List Nat) (i n : Nat) : (words l).setIfInBounds i (.int .u32 (n : Int)) = words (l.set i n) := by
  apply Array.ext_getElem?
  intro j
  simp only [words, List.map_map]
  rw [Array.getElem?_setIfInBounds]
  simp only [List.getElem?_toArray, List.getElem?_map, List.getElem?_set, List.size_toArray, List.length_map]
  split
  · rename_i h; subst h
    by_cases h2 : i < l.length
    · simp [h2]
    · simp [h2]
  · rfl
theorem Tryd.size64 : (Tryd.prog.info? 67).map (·.size) = some 64 := by kernel_rfl
theorem Tryd.size8 : (Tryd.prog.info? 53).map (·.size) = some 8 := by kernel_rfl

set_option maxRecDepth 100000 in
set_option maxHeartbeats 4000000 in
theorem numbers_any (w : World) : Calls Tryd.prog 50 #[] w fun e w' => e = .returned (.agg (words H.K)) ∧ Below w.heap.size w w' := by
  go_enter Tryd.func50, Tryd.ntmps50
  go_step
  go_step
  go_step
  go_step
  go_step
  go_step
  go_step
  rename_i K1 hK1
  refine hK1 _ _ ?_
  go_step
  refine wp_region_list ?_
  refine wpList_buildFlatArr rfl 67 52 64 _ rfl .u32 (H.K.map fun n : Nat => (n : Int)) (by kernel_rfl) (by kernel_rfl) (by kernel_rfl) (by kernel_rfl) ?_
  refine wpList_store_row rfl 67 _ _ rfl w.heap.size _ rfl rfl _ _ (heap_alloc_new w _) (by kernel_rfl) (by kernel_rfl) (words_one H.K) ?_
  rw [World.setRow_alloc_new]
  have hbw : Below w.heap.size w (w.alloc (.cells (words H.K) 67)) := (Below.refl _ _).alloc (Nat.le_refl _) _
  have hrow := heap_alloc_new w (.cells (words H.K) 67)
  change wpList Tryd.prog _ _ _ _ (w.alloc (.cells (words H.K) 67))
  generalize w.alloc (.cells (words H.K) 67) = W at *
  clear hK1
  refine wpList_nil ?_
  go_wp2_with fail
  refine bodyPost_ret (v := .agg (words H.K)) ?_ rfl ⟨rfl, hbw⟩
  exact results_cell_row Tryd.results50 _ W w.heap.size _ _ _ _ rfl hrow Tryd.underlying67 rfl Tryd.size64

end Go.Proofs.YthamligdmfhmeaaDoor
