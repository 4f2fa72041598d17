/- A list of digests out of bytes. -/
import Derived.Test.YthamligdmfhmeaaDoorSane
import Derived.Test.YthamligdmfhmeaaDoorJoin
import Derived.Deep.AppendLies
namespace Go.Proofs.YthamligdmfhmeaaDoor
open Go.RowKit

theorem infoDig : (Tryd.prog.info? 24).map (fun i => (i.zero, i.size, i.bytes)) = some (some (.agg (byts zero32)), 32, 32) := by kernel_rfl
def two32 (x y : UInt8) : List UInt8 := x :: y :: List.replicate 30 0
theorem two32_len (x y : UInt8) : (two32 x y).length = 32 := rfl
theorem built_two (x y : Int) (hx : 0 ≤ x) (hx2 : x < 256) (hy : 0 ≤ y) (hy2 : y < 256) : Tryd.prog.built 24 [(0, .int .u8 x), (1, .int .u8 y)] = some (byts (two32 (UInt8.ofNat x.toNat) (UInt8.ofNat y.toNat))) := by
  have h : Tryd.prog.built 24 [(0, .int .u8 x), (1, .int .u8 y)] = some (#[.int .u8 x, .int .u8 y] ++ byts (List.replicate 30 0)) := by kernel_rfl
  rw [h]
  simp [byts, two32]
  constructor <;> omega

theorem fill_one {d : List UInt8} (hd : d.length = 32) (cells : Array Value) (hc : cells.size = 32) : Instr.fill (fun i => some (i * 32, 32)) cells [(0, .agg (byts d))] = some (byts d) := by
  obtain ⟨r, h1, h2, h3⟩ := Great.fill_dense (s := 32) (by decide) [.agg (byts d)] 0 cells (by simp [Value.cells, byts_size, hd]) (by simp [hc])
  have e : r = byts d := by
    apply Array.ext_getElem?
    intro k
    rw [h3]
    by_cases hk : k < 32
    · rw [if_pos (by simp; exact hk)]
      have k0 : k / 32 - 0 = 0 := by omega
      have k1 : k % 32 = k := Nat.mod_eq_of_lt hk
      rw [k0, k1]
      rfl
    · rw [if_neg (by simp; omega), Array.getElem?_eq_none (by omega), Array.getElem?_eq_none (by rw [byts_size, hd]; omega)]
  exact h1.trans (congrArg some e)

theorem fill_parts {d : List UInt8} (hd : d.length = 32) (A : Act) (n : Nat) (hA : A.eval (.tmp n) = .agg (byts d)) (cells : Array Value) (hc : cells.size = 32) (s : Nat) (hs : s = 32) :
    Instr.fill (fun i => some (i * s, s)) cells (Array.map (fun (x : Nat × Operand) => match x with | (i, x) => (i, A.eval x)) #[(0, .tmp n)]).toList = some (byts d) := by
  subst hs
  simpa [hA] using fill_one hd cells hc
theorem owns_digs {w : World} {base n : Nat} {v : Value} {ds : List (List UInt8)} (h : w.ownsRow base 24 32 v n (bytes ds.flatten)) (hd : ∀ d ∈ ds, d.length = 32) :
    ∃ a c, v = .slice a n c ∧ n ≤ c ∧ DigsAt w a ds := by
  have hl := h.1
  rw [bytes_len, H.flat_len hd] at hl
  rcases h.2 with ⟨rfl, rfl⟩ | ⟨g, cap, cur, rfl, _, _, hc, _⟩
  · exact ⟨none, 0, rfl, Nat.le_refl _, hd, fun i hi => by rw [H.flat_len hd] at hi; omega⟩
  · exact ⟨_, cap, rfl, hc, hd, fun i hi => ⟨_, rfl, h.cells (g := g) rfl i _ (by rw [bytes, List.getElem?_map, List.getElem?_eq_getElem hi]; rfl)⟩⟩

set_option maxRecDepth 100000 in
set_option maxHeartbeats 4000000 in
theorem digestsOf_own (a : Option Addr) (n cap : Nat) (bs : List UInt8) (w : World) (hn : bs.length = n) (hc : n ≤ cap) (hb : BytesAt w a bs) :
    Calls Tryd.prog 7 #[.slice a n cap] w fun e w' => ∃ A m c ds, e = .returned (.slice A m c) ∧ m ≤ c ∧ m ≤ 24 ∧ ds.length = m ∧ DigsAt w' A ds ∧ Below w.heap.size w w' ∧ w'.ownsRow w.heap.size 24 32 (.slice A m c) m (bytes ds.flatten) := by
  have HB := Lib.hid hb; have HN := Lib.hid hn; have HCAP := Lib.hid hc
  clear hb hn hc
  go_enter Tryd.func7, Tryd.ntmps7
  go_wp2_with fail
  have HI0 : Hid (([] : List (List UInt8)).length = 0 ∧ (∀ d ∈ ([] : List (List UInt8)), d.length = 32) ∧ (w.alloc (.cells #[] 24 (0, 0))).ownsRow w.heap.size 24 32 (.slice (some ⟨w.heap.size, 0, none⟩) 0 0) 0 (bytes ([] : List (List UInt8)).flatten) ∧ Below w.heap.size w (w.alloc (.cells #[] 24 (0, 0)))) :=
    Lib.hid ⟨rfl, fun _ h => (by simp at h), ⟨rfl, .inr ⟨w.heap.size, 0, #[], rfl, Nat.le_refl _, heap_alloc_new w _, Nat.le_refl _, by decide, rfl, rfl⟩⟩, (Below.refl _ _).alloc (Nat.le_refl _) _⟩
  go_loopw [3, 4] (fun ll ii wr => ∃ i : Nat, ∃ ds : List (List UInt8), i ≤ n ∧ i ≤ 24 ∧ ii = .int .i64 i ∧ Hid (ds.length = i ∧ (∀ d ∈ ds, d.length = 32) ∧ wr.ownsRow w.heap.size 24 32 ll i (bytes ds.flatten) ∧ Below w.heap.size w wr))
    (fun _ ii _ => 24 - (intOf ii).toNat)
  case atStart => exact ⟨0, [], Nat.zero_le _, Nat.zero_le _, rfl, HI0⟩
  case round =>
    obtain ⟨i, ds, hi, hi24, rfl, HI⟩ := hrel
    by_cases hlt : i < n
    · have hlt' : (i : Int) < (n : Int) := by omega
      by_cases h24 : i < 24
      · have h24' : (i : Int) < 24 := by omega
        obtain ⟨ad, had, hcell⟩ := (HB.out.kept HI.out.2.2.2) i (by rw [HN.out]; exact hlt)
        subst had
        generalize bs[i]'_ = x at hcell
        go_upto_region 5 with (fail)
        refine wp_region_list ?_
        iterate 26 go_step
        generalize hd : two32 (UInt8.ofNat ((x.toNat : Int) % 4).toNat) (UInt8.ofNat ((i : Int) / 8).toNat) = d
        have hdl : d.length = 32 := by rw [← hd]; rfl
        have hbu := built_two ((x.toNat : Int) % 4) ((i : Int) / 8) (by omega) (by omega) (by omega) (by omega)
        rw [hd] at hbu
        clear hd
        have HDL := Lib.hid hdl
        clear hdl
        refine wpl_build_parts rfl 24 _ rfl (byts d) (by simpa [Act.eval] using hbu) ?_
        clear hbu
        obtain ⟨i0, hi0, hz0, hz1, hz2⟩ := info_parts infoDig
        refine wpList_buildSlice rfl 26 24 1 _ rfl (byts d) i0 _ Tryd.underlying26 hi0 hz0 (by rw [hz1]; decide) (by rw [hz1]; decide) ?_ ?_
        · exact fill_parts HDL.out _ 25 rfl _ (by rw [Array.size_map, Array.size_range, hz1]) _ hz1
        have HA : Hid ((∀ d' ∈ ds ++ [d], d'.length = 32) ∧ bytes (ds ++ [d]).flatten = bytes ds.flatten ++ bytes d) := Lib.hid ⟨fun d' h => by
            rcases List.mem_append.1 h with h | h
            · exact HI.out.2.1 d' h
            · obtain rfl := List.mem_singleton.1 h; exact HDL.out, by rw [List.flatten_append, bytes_append]; simp⟩
        refine wpList_append_own _ rfl _ _ 26 rfl w.heap.size 24 i0 _ 32 32 Tryd.underlying26 hi0 hz0 hz1 hz2 rfl (by decide) u3 i (bytes ds.flatten) rfl ?_ ⟨wr.heap.size, 0, none⟩ 1 1 (bytes d) rfl (by rw [bytes_len, HDL.out]) ?_ (bytes_cells _) (by unfold maxLen; omega) (by omega) ?_ ?_
        · exact owns_kept HI.out.2.2.1 ((Below.refl _ _).alloc (Nat.le_refl _) _)
        · exact World.news_of_block (cs := byts d) (heap_alloc_new wr _)
        · have := HI.out.2.2.2.size; simp; omega
        intro v' w' ho hg _
        have HN : Hid ((ds ++ [d]).length = i + 1 ∧ (∀ d' ∈ ds ++ [d], d'.length = 32) ∧ w'.ownsRow w.heap.size 24 32 v' (i + 1) (bytes (ds ++ [d]).flatten) ∧ Below w.heap.size w w') := Lib.hid (by
          refine ⟨by rw [List.length_append, HI.out.1]; rfl, HA.out.1, by rw [HA.out.2]; exact ho, ?_⟩
          have h1 := HI.out.2.2.2
          have h2 : Below w.heap.size w (wr.alloc (.cells (byts d) 24)) := h1.alloc h1.size _
          exact ⟨hg.os.trans h2.os, hg.tape.trans h2.tape, hg.output.trans h2.output, Nat.le_trans h2.size hg.size, fun k hk => (hg.block k (Nat.lt_of_lt_of_le hk h2.size) (fun hv => by
            rcases HI.out.2.2.1.2 with ⟨hu, _⟩ | ⟨g, c1, cur, hu, hgb, _⟩
            · rw [hu] at hv; simp [Value.ownBlock] at hv
            · rw [hu] at hv; simp [Value.ownBlock] at hv; omega)).trans (h2.block k hk)⟩)
        clear ho hg HI HA hz0 hz1 hz2 hi0
        go_step
        go_step
        go_step
        refine wpList_nil ?_
        go_wp2_with fail
        go_roundw
        case rel => exact ⟨i + 1, ds ++ [d], by omega, by omega, by go_num, HN⟩
        case measure => simp [intOf]; omega
      · have h24' : ¬ (i : Int) < 24 := by omega
        obtain ⟨A, c, rfl, hc, hdg⟩ := owns_digs HI.out.2.2.1 HI.out.2.1
        have HZ := Lib.hid hdg
        clear hdg
        go_wp2_with fail
        go_ret
        exact ⟨A, i, c, rfl, hc, hi24, ds, HI.out.1, HZ.out, HI.out.2.2.2, HI.out.2.2.1⟩
    · have hlt' : ¬ (i : Int) < (n : Int) := by omega
      obtain ⟨A, c, rfl, hc, hdg⟩ := owns_digs HI.out.2.2.1 HI.out.2.1
      have HZ := Lib.hid hdg
      clear hdg
      go_wp2_with fail
      go_ret
      exact ⟨A, i, c, rfl, hc, hi24, ds, HI.out.1, HZ.out, HI.out.2.2.2, HI.out.2.2.1⟩

theorem digestsOf_any (a : Option Addr) (n cap : Nat) (bs : List UInt8) (w : World) (hn : bs.length = n) (hc : n ≤ cap) (hb : BytesAt w a bs) :
    Calls Tryd.prog 7 #[.slice a n cap] w fun e w' => ∃ A m c ds, e = .returned (.slice A m c) ∧ m ≤ c ∧ m ≤ 24 ∧ ds.length = m ∧ DigsAt w' A ds ∧ Below w.heap.size w w' :=
  (digestsOf_own a n cap bs w hn hc hb).mono fun _ _ ⟨A, m, c, ds, h1, h2, h3, h4, h5, h6, _⟩ => ⟨A, m, c, ds, h1, h2, h3, h4, h5, h6⟩

end Go.Proofs.YthamligdmfhmeaaDoor
