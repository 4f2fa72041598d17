/- Contract of the reference's reader: Value, at lists, and at all bytes. -/
import Derived.Test.YtmhchpdogjbpmaaRValue
import Derived.Deep.RegionLaw
namespace Go.Proofs.Ytmhchpdogjbpmaa
open Go.RowKit

set_option maxRecDepth 100000 in
set_option maxHeartbeats 4000000 in
theorem rvalue_list_badnum (w : World) (rb : Nat) (pa : Option Addr) (raw : List UInt8) (cap i : Nat) (q : Int) (deep : Nat) (h : RR w rb pa raw cap i false) (hi : i < raw.length) (h1 : (raw[i]).toNat = 3) (hr : M.rdNum 0 0 (raw.drop (i + 1)) = none) :
    Calls Try.prog 35 #[.pointer (some ⟨rb, 0, none⟩), .int .i64 q] w (RVal deep none w rb pa raw cap) := by
  have hlt := h.lt
  have hN := next_ok _ rb pa raw cap i false (h.alloc (.cells #[.int .i64 0, .int .i64 0, .string ⟨#[]⟩, .slice none 0 0] 24)) hi
  rw [h1] at hN
  have hlr := h.2.2.1
  have HN := Lib.hid hN
  clear h h1 hN
  have HR := Lib.hid hr
  clear hr
  go_enter Try.func35, Try.ntmps35
  go_wp2_with fail
  refine HN.out.mono ?_
  rintro e w1 ⟨rfl, hL⟩
  have HL := Lib.hid hL
  clear hL HN
  go_wp2_with fail
  refine (number_any w1 rb pa raw cap (i + 1) (by omega) HL.out.1 none HR.out).mono ?_
  rintro e w2 ⟨u, at', rfl, hu, hat, hL2⟩
  have HL2 := Lib.hid (HL.out.trans hL2)
  obtain ⟨⟨c0, c1, c2⟩, g0, g1, g2⟩ := cells3 HL2.out.1.1
  clear hL2 HL HR
  go_wp2_with fail
  have x0 := cell_regrown c0; have x1 := cell_regrown c1; have x2 := cell_regrown c2
  refine wp_region_qb (by kernel_rfl) ?_
  repeat (go_big_quiet_step (fail))
  refine wpQuiet_nil ?_
  intro W2 hb2
  have HL3 := Lib.hid (HL2.out.trans ⟨HL2.out.1.kept hb2, below_grownBy hb2⟩)
  have hbx := HL3.out.box hlt
  clear x0 x1 x2 c0 c1 c2 g0 g1 g2
  obtain ⟨⟨c0, c1, c2⟩, g0, g1, g2⟩ := cells3 HL3.out.1.1
  obtain ⟨⟨d0, d1, d2, d3⟩, f0, f1, f2, f3⟩ := cells4 hbx
  clear hbx
  go_wp2_with fail
  refine bodyPost_ret (v := .agg #[.int .i64 0, .int .i64 0, .string ⟨#[]⟩, .slice none 0 0]) (by simp [results, Try.results35, go_sem, d0, d1, d2, d3]) rfl ?_
  exact ⟨0, 0, ⟨#[]⟩, none, 0, 0, at', rfl, hat, Left.ret hlt HL3.out.bad _ _ _ _ rfl⟩

set_option maxRecDepth 100000 in
set_option maxHeartbeats 4000000 in
theorem rvalue_list_long (w : World) (rb : Nat) (pa : Option Addr) (raw : List UInt8) (cap i : Nat) (q : Int) (deep : Nat) (h : RR w rb pa raw cap i false) (hi : i < raw.length) (h1 : (raw[i]).toNat = 3) (u : Nat) (rest : List UInt8) (hr : M.rdNum 0 0 (raw.drop (i + 1)) = some (u, rest)) (hlong : rest.length < u) :
    Calls Try.prog 35 #[.pointer (some ⟨rb, 0, none⟩), .int .i64 q] w (RVal deep none w rb pa raw cap) := by
  have hlt := h.lt
  have hN := next_ok _ rb pa raw cap i false (h.alloc (.cells #[.int .i64 0, .int .i64 0, .string ⟨#[]⟩, .slice none 0 0] 24)) hi
  rw [h1] at hN
  have hlr := h.2.2.1
  have HN := Lib.hid hN
  clear h h1 hN
  have HR := Lib.hid hr
  clear hr
  go_enter Try.func35, Try.ntmps35
  go_wp2_with fail
  refine HN.out.mono ?_
  rintro e w1 ⟨rfl, hL⟩
  have HL := Lib.hid hL
  clear hL HN
  go_wp2_with fail
  refine (number_any w1 rb pa raw cap (i + 1) (by omega) HL.out.1 _ HR.out).mono ?_
  rintro e w2 ⟨rfl, hu, at', hat, hrest, hL2⟩
  have HL2 := Lib.hid (HL.out.trans hL2)
  obtain ⟨⟨c0, c1, c2⟩, g0, g1, g2⟩ := cells3 HL2.out.1.1
  have hrl : rest.length = raw.length - at' := by rw [hrest, List.length_drop]
  have HREST := Lib.hid hrest
  clear hL2 HL HR hrest
  obtain ⟨m, hm⟩ : ∃ m, m = raw.length - at' := ⟨_, rfl⟩
  have hml : m ≤ 1000000 := by omega
  have hsub : (raw.length : Int) - (at' : Int) = (m : Int) := by omega
  have hw1 : IntKind.i64.wrap (m : Int) = (m : Int) := wrap_i64 _ (by omega) (by omega)
  have hw2 : IntKind.u64.wrap (m : Int) = (m : Int) := wrap_u64 _ (by omega) (by omega)
  have t1 : decide ((m : Int) < (u : Int)) = true := by simp; omega
  have t2 : decide (m < u) = true := by simp; omega
  clear hm hrl hlong
  go_wp2_with fail
  have x0 := cell_regrown c0; have x1 := cell_regrown c1; have x2 := cell_regrown c2
  refine wp_region_qb (by kernel_rfl) ?_
  repeat (go_big_quiet_step (fail))
  refine wpQuiet_nil ?_
  intro W2 hb2
  have HL3 := Lib.hid (HL2.out.trans ⟨HL2.out.1.kept hb2, below_grownBy hb2⟩)
  have hbx := HL3.out.box hlt
  clear x0 x1 x2 c0 c1 c2 g0 g1 g2
  obtain ⟨⟨c0, c1, c2⟩, g0, g1, g2⟩ := cells3 HL3.out.1.1
  obtain ⟨⟨d0, d1, d2, d3⟩, f0, f1, f2, f3⟩ := cells4 hbx
  clear hbx
  go_wp2_with fail
  refine bodyPost_ret (v := .agg #[.int .i64 0, .int .i64 0, .string ⟨#[]⟩, .slice none 0 0]) (by simp [results, Try.results35, go_sem, d0, d1, d2, d3]) rfl ?_
  exact ⟨0, 0, ⟨#[]⟩, none, 0, 0, at', rfl, hat, Left.ret hlt HL3.out.bad _ _ _ _ rfl⟩

set_option maxRecDepth 100000 in
set_option maxHeartbeats 4000000 in
theorem rvalue_list_deep (w : World) (rb : Nat) (pa : Option Addr) (raw : List UInt8) (cap i : Nat) (q : Int) (deep : Nat) (h : RR w rb pa raw cap i false) (hi : i < raw.length) (h1 : (raw[i]).toNat = 3) (hq : q = 16) (u : Nat) (rest : List UInt8) (hr : M.rdNum 0 0 (raw.drop (i + 1)) = some (u, rest)) (hlong : u ≤ rest.length) :
    Calls Try.prog 35 #[.pointer (some ⟨rb, 0, none⟩), .int .i64 q] w (RVal deep none w rb pa raw cap) := by
  have hlt := h.lt
  have hN := next_ok _ rb pa raw cap i false (h.alloc (.cells #[.int .i64 0, .int .i64 0, .string ⟨#[]⟩, .slice none 0 0] 24)) hi
  rw [h1] at hN
  have hlr := h.2.2.1
  have HN := Lib.hid hN
  clear h h1 hN
  subst hq
  have HR := Lib.hid hr
  clear hr
  go_enter Try.func35, Try.ntmps35
  go_wp2_with fail
  refine HN.out.mono ?_
  rintro e w1 ⟨rfl, hL⟩
  have HL := Lib.hid hL
  clear hL HN
  go_wp2_with fail
  refine (number_any w1 rb pa raw cap (i + 1) (by omega) HL.out.1 _ HR.out).mono ?_
  rintro e w2 ⟨rfl, hu, at', hat, hrest, hL2⟩
  have HL2 := Lib.hid (HL.out.trans hL2)
  obtain ⟨⟨c0, c1, c2⟩, g0, g1, g2⟩ := cells3 HL2.out.1.1
  have hrl : rest.length = raw.length - at' := by rw [hrest, List.length_drop]
  have HREST := Lib.hid hrest
  clear hL2 HL HR hrest
  obtain ⟨m, hm⟩ : ∃ m, m = raw.length - at' := ⟨_, rfl⟩
  have hml : m ≤ 1000000 := by omega
  have hsub : (raw.length : Int) - (at' : Int) = (m : Int) := by omega
  have hw1 : IntKind.i64.wrap (m : Int) = (m : Int) := wrap_i64 _ (by omega) (by omega)
  have hw2 : IntKind.u64.wrap (m : Int) = (m : Int) := wrap_u64 _ (by omega) (by omega)
  have t1 : decide ((m : Int) < (u : Int)) = false := by simp; omega
  have t2 : decide (m < u) = false := by simp; omega
  clear hm hrl hlong
  go_wp2_with fail
  have x0 := cell_regrown c0; have x1 := cell_regrown c1; have x2 := cell_regrown c2
  refine wp_region_qb (by kernel_rfl) ?_
  repeat (go_big_quiet_step (fail))
  refine wpQuiet_nil ?_
  intro W2 hb2
  have HL3 := Lib.hid (HL2.out.trans ⟨HL2.out.1.kept hb2, below_grownBy hb2⟩)
  have hbx := HL3.out.box hlt
  clear x0 x1 x2 c0 c1 c2 g0 g1 g2
  obtain ⟨⟨c0, c1, c2⟩, g0, g1, g2⟩ := cells3 HL3.out.1.1
  obtain ⟨⟨d0, d1, d2, d3⟩, f0, f1, f2, f3⟩ := cells4 hbx
  clear hbx
  go_wp2_with fail
  refine bodyPost_ret (v := .agg #[.int .i64 0, .int .i64 0, .string ⟨#[]⟩, .slice none 0 0]) (by simp [results, Try.results35, go_sem, d0, d1, d2, d3]) rfl ?_
  exact ⟨0, 0, ⟨#[]⟩, none, 0, 0, at', rfl, hat, Left.ret hlt HL3.out.bad _ _ _ _ rfl⟩

theorem RVal.shape {deep : Nat} {r : Option (M.T (deep + 1) × List UInt8)} {w w' : World} {rb : Nat} {pa : Option Addr} {raw : List UInt8} {cap : Nat} {e : Ending} (h : RVal deep r w rb pa raw cap e w') :
    ∃ k n s a len c, e = .returned (.agg #[.int .i64 k, .int .i64 n, .string s, .slice a len c]) ∧ w.grownBy w' (some rb) := by
  cases r with
  | none =>
    obtain ⟨k, n, s, a, len, c, at', he, _, hL⟩ := h
    exact ⟨k, n, s, a, len, c, he, hL.2⟩
  | some p =>
    obtain ⟨t, rest⟩ := p
    obtain ⟨v, at', he, hrep, _, _, hL⟩ := h
    obtain ⟨k, n, s, a, len, c, hv⟩ := hrep.shape
    exact ⟨k, n, s, a, len, c, by rw [he, hv], hL.2⟩

theorem RR.grown {w w' : World} {rb : Nat} {row : Option Nat} {pa : Option Addr} {raw : List UInt8} {cap at' : Nat} {bad : Bool} (h : RR w rb pa raw cap at' bad) (hg : w.grownBy w' row) (hr : ∀ k, row = some k → rb < k) : RR w' rb pa raw cap at' bad := by
  have hlt := h.lt
  obtain ⟨h1, h2, h3, h4⟩ := h
  have hh : ∀ k, k ≤ rb → w'.heap[k]? = w.heap[k]? := fun k hk => hg.block k (by omega) (fun e => by have := hr k e.symm; omega)
  refine ⟨(hh rb (Nat.le_refl _)).trans h1, h2, h3, fun i hi => ?_⟩
  obtain ⟨ad, ha, hl, hc⟩ := h4 i hi
  exact ⟨ad, ha, hl, (World.cell?_of_block (w := w) (hh _ (by rw [add_block]; omega))).trans hc⟩

/-- What holds at each round's head. -/
def LInv (w : World) (rb : Nat) (pa : Option Addr) (raw : List UInt8) (cap B8 e : Nat) (R : Option (M.T (e + 2) × List UInt8)) (u : Nat) (wr : World) (j : Nat) (acc : List (M.T (e + 1))) (qs : List Quad) (rv : Value) (at' : Nat) (bad : Bool) : Prop :=
  RR wr rb pa raw cap at' bad ∧ at' ≤ raw.length ∧ wr.heap[w.heap.size]? = some (.cells #[.int .i64 0, .int .i64 0, .string ⟨#[]⟩, .slice none 0 0] 24 (0, 0)) ∧
  wr.heap[B8]? = some (.cells #[.int .i64 3, .int .i64 0, .string ⟨#[]⟩, rv] 24 (0, 0)) ∧ wr.ownsRow (B8 + 1) 24 4 rv j (flat qs) ∧ w.heap.size < B8 ∧ B8 + 1 ≤ wr.heap.size ∧ w.grownBy wr (some rb) ∧
  (bad = true → R = none) ∧
  (bad = false → Got (fun k => B8 + 1 ≤ k ∧ k < wr.heap.size ∧ rv.ownBlock ≠ some k) wr (e + 1) acc qs ∧ acc.length = j ∧ listOf e ((M.rdMany (M.rdVal e) (u - j) (raw.drop at')).map fun p => (acc ++ p.1, p.2)) = R)

theorem LInv.step {w wr w3 w5 : World} {rb : Nat} {pa : Option Addr} {raw : List UInt8} {cap B8 e : Nat} {R : Option (M.T (e + 2) × List UInt8)} {u j at' : Nat} {acc : List (M.T (e + 1))} {qs : List Quad} {rv : Value} {a b c x : Value} {g cp : Nat}
    (hI : LInv w rb pa raw cap B8 e R u wr j acc qs rv at' false) (hlt : rb < w.heap.size) (hju : j < u) (hval : RVal e (M.rdVal e (raw.drop at')) wr.drew rb pa raw cap (.returned (.agg #[a, b, c, x])) w3)
    (ho5 : w5.ownsRow (B8 + 1) 24 4 (.slice (some ⟨g, 0, none⟩) (j + 1) cp) (j + 1) (flat qs ++ [a, b, c, x])) {o : Obj} (hg5 : (w3.alloc o).grownBy w5 rv.ownBlock) (hat : rv.ownBlock = some g ∨ g = (w3.alloc o).heap.size) :
    ∃ acc' at'' bad', LInv w rb pa raw cap B8 e R u (w5.setCell ⟨B8, 3, none⟩ (.slice (some ⟨g, 0, none⟩) (j + 1) cp)) (j + 1) acc' (qs ++ [(a, b, c, x)]) (.slice (some ⟨g, 0, none⟩) (j + 1) cp) at'' bad' := by
  obtain ⟨hRR, hal, hR, hV, hown, hB8, hsz, hgr, _, hok⟩ := hI
  obtain ⟨hgot, hlen, hrd⟩ := hok rfl
  obtain ⟨_, _, _, _, _, _, _, hg3⟩ := hval.shape
  have hrow : ∀ k, rv.ownBlock = some k → B8 + 1 ≤ k ∧ k < wr.heap.size := hown.lt
  have hs3 : wr.heap.size ≤ w3.heap.size := hg3.size
  have hs5 : w3.heap.size + 1 ≤ w5.heap.size := by have := hg5.size; simpa using this
  have hss : (w5.setCell ⟨B8, 3, none⟩ (.slice (some ⟨g, 0, none⟩) (j + 1) cp)).heap.size = w5.heap.size := by simp [World.setCell]
  have h35 : ∀ k, k < w3.heap.size → rv.ownBlock ≠ some k → w5.heap[k]? = w3.heap[k]? := fun k hk hn => (hg5.block k (by simp; omega) (Ne.symm hn)).trans (Below.heap_alloc _ _ _ hk)
  have hr5 : ∀ k, k < wr.heap.size → k ≠ rb → rv.ownBlock ≠ some k → w5.heap[k]? = wr.heap[k]? := fun k hk hn hn2 => (h35 k (by omega) hn2).trans (hg3.block k hk (by simp; omega))
  have hset : ∀ k, k ≠ B8 → (w5.setCell ⟨B8, 3, none⟩ (.slice (some ⟨g, 0, none⟩) (j + 1) cp)).heap[k]? = w5.heap[k]? := fun k hk => Below.heap_setCell _ _ _ _ (by simpa using hk)
  have hold : ∀ k, k ≤ B8 → rv.ownBlock ≠ some k := fun k hk e => by have := (hrow k e).1; omega
  have hrr : ∀ {at2 : Nat} {bad2 : Bool}, RR w3 rb pa raw cap at2 bad2 → RR (w5.setCell ⟨B8, 3, none⟩ (.slice (some ⟨g, 0, none⟩) (j + 1) cp)) rb pa raw cap at2 bad2 := fun h => ((h.alloc o).grown hg5 (fun k hk => by have := (hrow k hk).1; omega)).store' (by omega) _
  have hbox : (w5.setCell ⟨B8, 3, none⟩ (.slice (some ⟨g, 0, none⟩) (j + 1) cp)).heap[w.heap.size]? = some (.cells #[.int .i64 0, .int .i64 0, .string ⟨#[]⟩, .slice none 0 0] 24 (0, 0)) := by
    rw [hset _ (by omega), hr5 _ (by omega) (by omega) (hold _ (by omega))]; exact hR
  have hvar := heap_store3 (u := .slice (some ⟨g, 0, none⟩) (j + 1) cp) ((hr5 B8 (by omega) (by omega) (hold B8 (Nat.le_refl _))).trans hV)
  have hrow' : (w5.setCell ⟨B8, 3, none⟩ (.slice (some ⟨g, 0, none⟩) (j + 1) cp)).ownsRow (B8 + 1) 24 4 (.slice (some ⟨g, 0, none⟩) (j + 1) cp) (j + 1) (flat (qs ++ [(a, b, c, x)])) := by
    rw [flat_snoc]; exact ownsRow_setCell_below ho5 (by simp) _
  have hgw : w.grownBy (w5.setCell ⟨B8, 3, none⟩ (.slice (some ⟨g, 0, none⟩) (j + 1) cp)) (some rb) := by
    have hg3b : wr.grownBy w3 (some rb) := ⟨hg3.os, hg3.tape, hg3.output, hg3.size, hg3.block⟩
    refine ⟨hg5.os.trans (hg3b.os.trans hgr.os), hg5.tape.trans (hg3b.tape.trans hgr.tape), hg5.output.trans (hg3b.output.trans hgr.output), by rw [hss]; have := hgr.size; omega, fun k hk hn => ?_⟩
    rw [hset _ (by omega), hr5 k (by omega) (by simpa using hn) (hold _ (by omega))]
    exact hgr.block k hk hn
  revert hval
  have hbind : M.rdMany (M.rdVal e) (u - j) (raw.drop at') = (M.rdVal e (raw.drop at')).bind fun p => (M.rdMany (M.rdVal e) (u - (j + 1)) p.2).map fun q => (p.1 :: q.1, q.2) := by
    rw [show u - j = (u - (j + 1)) + 1 from by omega, M.rdMany_succ]
  rw [hbind] at hrd
  cases hq : M.rdVal e (raw.drop at') with
  | none =>
    rintro ⟨_, _, _, _, _, _, at2, _, hat2, hL⟩
    rw [hq] at hrd
    exact ⟨acc, at2, true, hrr hL.1, hat2, hbox, hvar, hrow', hB8, by rw [hss]; omega, hgw, (fun _ => hrd.symm), (fun h => by cases h)⟩
  | some p =>
    obtain ⟨t, rest⟩ := p
    rintro ⟨v, at2, he, hrep, hat2, hrest, hL⟩
    rw [hq] at hrd
    obtain rfl := Ending.returned.inj he
    refine ⟨acc ++ [t], at2, false, hrr hL.1, hat2, hbox, hvar, hrow', hB8, by rw [hss]; omega, hgw, (fun h => by cases h), (fun _ => ⟨?_, by simp [hlen], ?_⟩)⟩
    · have hgk : ∀ k, (k < wr.heap.size ∧ rv.ownBlock ≠ some k) ∨ (wr.heap.size ≤ k ∧ k < w3.heap.size) → (Value.slice (some ⟨g, 0, none⟩) (j + 1) cp).ownBlock ≠ some k := fun k hk e => by
        simp only [Value.ownBlock, Option.some.injEq] at e
        subst e
        rcases hat with h | h
        · rcases hk with ⟨_, h2⟩ | ⟨h1, _⟩
          · exact h2 h
          · have := (hrow g h).2; omega
        · simp at h; rcases hk with ⟨h1, _⟩ | ⟨_, h2⟩ <;> omega
      have hA : Got (fun k => B8 + 1 ≤ k ∧ k < (w5.setCell ⟨B8, 3, none⟩ (.slice (some ⟨g, 0, none⟩) (j + 1) cp)).heap.size ∧ (Value.slice (some ⟨g, 0, none⟩) (j + 1) cp).ownBlock ≠ some k) (w5.setCell ⟨B8, 3, none⟩ (.slice (some ⟨g, 0, none⟩) (j + 1) cp)) (e + 1) acc qs :=
        hgot.kept (fun k hk => by rw [hset k (by omega), hr5 k hk.2.1 (by omega) hk.2.2]) (fun k hk => ⟨hk.1, by rw [hss]; omega, hgk k (.inl hk.2)⟩)
      refine hA.snoc ((hrep.kept (fun k hk => ?_)).mono (fun k hk => ?_))
      · have h1 : wr.heap.size ≤ k := hk.1
        rw [hset k (by omega), h35 k hk.2 (fun e => by have := (hrow k e).2; omega)]
      · have h1 : wr.heap.size ≤ k := hk.1
        exact ⟨by omega, by rw [hss]; omega, hgk k (.inr ⟨h1, hk.2⟩)⟩
    · rw [← hrd, ← hrest]
      simp only [Option.bind_some]
      cases M.rdMany (M.rdVal e) (u - (j + 1)) rest <;> simp [listOf]

set_option maxRecDepth 100000 in
set_option maxHeartbeats 4000000 in
theorem rvalue_list_ok (w : World) (rb : Nat) (pa : Option Addr) (raw : List UInt8) (cap i : Nat) (q : Int) (h : RR w rb pa raw cap i false) (hi : i < raw.length) (h1 : (raw[i]).toNat = 3) (e : Nat) (hq0 : -1000 ≤ q) (hq1 : q ≤ 15) (u : Nat) (rest : List UInt8) (hr : M.rdNum 0 0 (raw.drop (i + 1)) = some (u, rest)) (hlong : u ≤ rest.length) (R : Option (M.T (e + 2) × List UInt8)) (hR : listOf e (M.rdMany (M.rdVal e) u rest) = R)
    (hv : ∀ (W : World) (at' : Nat), at' ≤ raw.length → RR W rb pa raw cap at' false → Calls Try.prog 35 #[.pointer (some ⟨rb, 0, none⟩), .int .i64 (q + 1)] W (RVal e (M.rdVal e (raw.drop at')) W rb pa raw cap)) :
    Calls Try.prog 35 #[.pointer (some ⟨rb, 0, none⟩), .int .i64 q] w (RVal (e + 1) R w rb pa raw cap) := by
  have hlt := h.lt
  have hN := next_ok _ rb pa raw cap i false (h.alloc (.cells #[.int .i64 0, .int .i64 0, .string ⟨#[]⟩, .slice none 0 0] 24)) hi
  rw [h1] at hN
  have hlr := h.2.2.1
  have HN := Lib.hid hN
  clear h h1 hN
  have HVC := Lib.hid hv
  have HRR := Lib.hid hR
  clear hv hR
  have HR := Lib.hid hr
  clear hr
  go_enter Try.func35, Try.ntmps35
  go_wp2_with fail
  refine HN.out.mono ?_
  rintro e w1 ⟨rfl, hL⟩
  have HL := Lib.hid hL
  clear hL HN
  go_wp2_with fail
  refine (number_any w1 rb pa raw cap (i + 1) (by omega) HL.out.1 _ HR.out).mono ?_
  rintro e w2 ⟨rfl, hu, at', hat, hrest, hL2⟩
  have HL2 := Lib.hid (HL.out.trans hL2)
  obtain ⟨⟨c0, c1, c2⟩, g0, g1, g2⟩ := cells3 HL2.out.1.1
  have hrl : rest.length = raw.length - at' := by rw [hrest, List.length_drop]
  have HREST := Lib.hid hrest
  clear hL2 HL HR hrest
  obtain ⟨m, hm⟩ : ∃ m, m = raw.length - at' := ⟨_, rfl⟩
  have hml : m ≤ 1000000 := by omega
  have hsub : (raw.length : Int) - (at' : Int) = (m : Int) := by omega
  have hw1 : IntKind.i64.wrap (m : Int) = (m : Int) := wrap_i64 _ (by omega) (by omega)
  have hw2 : IntKind.u64.wrap (m : Int) = (m : Int) := wrap_u64 _ (by omega) (by omega)
  have t1 : decide ((m : Int) < (u : Int)) = false := by simp; omega
  have t2 : decide (m < u) = false := by simp; omega
  have t3 : (q == 16) = false := by rw [beq_eq_false_iff_ne]; omega
  have hum : u ≤ 1000000 := by omega
  clear hm hrl hlong
  go_wp2_with fail
  have x0 := cell_regrown c0; have x1 := cell_regrown c1; have x2 := cell_regrown c2
  refine wp_region_qb (by kernel_rfl) ?_
  repeat (go_big_quiet_step (fail))
  refine wpQuiet_nil ?_
  intro W2 hb2
  have HL3 := Lib.hid (HL2.out.trans ⟨HL2.out.1.kept hb2, below_grownBy hb2⟩)
  have hbx := HL3.out.box hlt
  have hsz : w.heap.size < W2.heap.size := (Array.getElem?_eq_some_iff.1 hbx).1
  clear x0 x1 x2 c0 c1 c2 g0 g1 g2 t1 t2 hsub hw1 hw2 hb2 HL2
  go_wp2_with fail
  have hstart : LInv w rb pa raw cap W2.heap.size e R u (W2.alloc (.cells #[.int .i64 3, .int .i64 0, .string ⟨#[]⟩, .slice none 0 0] 24)) 0 [] [] (.slice none 0 0) at' false := by
    refine ⟨HL3.out.1.alloc _, hat, (Below.heap_alloc _ _ _ hsz).trans hbx, heap_alloc_new W2 _, World.ownsRow_nil _ _ _ _, hsz, by simp, ?_, (fun h => by cases h), (fun _ => ⟨⟨rfl, fun i x q hx => by simp at hx⟩, rfl, ?_⟩)⟩
    · exact grownBy_trans (grownBy_alloc _ HL3.out.2) (World.grownBy_alloc _ _ _)
    · rw [← HRR.out, ← HREST.out, Nat.sub_zero]
      simp only [List.nil_append]
      cases M.rdMany (M.rdVal e) u rest <;> rfl
  generalize W2.alloc (.cells #[.int .i64 3, .int .i64 0, .string ⟨#[]⟩, .slice none 0 0] 24) = W3 at *
  generalize W2.heap.size = B8 at *
  clear HL3 hbx W2
  have HST := Lib.hid hstart
  clear hstart
  go_loopw [9] (fun ii wr => ∃ (j : Nat) (acc : List (M.T (e + 1))) (qs : List Quad) (rv : Value) (at2 : Nat) (bad : Bool), ii = .int .u64 j ∧ j ≤ u ∧ Hid (LInv w rb pa raw cap B8 e R u wr j acc qs rv at2 bad))
    (fun ii _ => u - (intOf ii).toNat)
  case atStart => exact ⟨0, [], [], _, at', false, rfl, Nat.zero_le _, HST⟩
  case round =>
    obtain ⟨j, acc, qs, rv, at2, bad, rfl, hj, HI⟩ := hrel
    obtain ⟨hRR, hal, hRb, hV, hown, hB8, hszr, hgr, hbadR, hok⟩ := HI.out
    obtain ⟨⟨c0, c1, c2⟩, g0, g1, g2⟩ := cells3 hRR.1
    obtain ⟨⟨d0, d1, d2, d3⟩, f0, f1, f2, f3⟩ := cells4 hV
    have HBAD := Lib.hid hbadR; have HOK := Lib.hid hok
    clear hbadR hok
    by_cases hju : j < u ∧ bad = false
    · obtain ⟨hju1, rfl⟩ := hju
      have hvD := HVC.out wr.drew at2 hal ⟨hRR.1, hRR.2.1, hRR.2.2.1, hRR.2.2.2⟩
      have HVD := Lib.hid hvD; clear hvD
      have hbD : B8 + 1 ≤ wr.drew.heap.size := hszr
      have hownD := hown.drew
      have hneV : rv.ownBlock ≠ some B8 := fun hh => by have := (hown.lt _ hh).1; omega
      have hneR : rv.ownBlock ≠ some rb := fun hh => by have := (hown.lt _ hh).1; omega
      have hVD : wr.drew.heap[B8]? = some (.cells #[.int .i64 3, .int .i64 0, .string ⟨#[]⟩, rv] 24 (0, 0)) := hV
      clear c0 c1 g0 g1 g2
      go_wp2_with fail
      go_region_law (first
        | (refine step_push4 rfl _ _ rfl (B8 + 1) rv j (flat qs) rfl (ho3.alloc _) w3.heap.size (.int .i64 kx) (.int .i64 nx) (.string sx) (.slice ax lx px) rfl (heap_alloc_new w3 _) ⟨rfl, rfl, rfl, rfl⟩ (by omega) (by simp; omega) ?_; intro g cp w5 ho5 hg5 hat5 hglt; have hV5 : w5.heap[B8]? = some (.cells #[.int .i64 3, .int .i64 0, .string ⟨#[]⟩, rv] 24 (0, 0)) := (hg5.block B8 (by simp; omega) (Ne.symm hneV)).trans ((Below.heap_alloc _ _ _ (by omega)).trans hV3); obtain ⟨⟨e0, e1, e2, e3⟩, k0, k1, k2, k3⟩ := cells4 hV5)
        | (go_simp; go_at_call 35; rw [wrap_i64 _ (by omega) (by omega)]; (with_reducible refine (HVD.out).mono ?_); rintro er w3 hval; obtain ⟨kx, nx, sx, ax, lx, px, he, hg3⟩ := hval.shape; subst he; have hV3 : w3.heap[B8]? = some (.cells #[.int .i64 3, .int .i64 0, .string ⟨#[]⟩, rv] 24 (0, 0)) := (hg3.block _ (by simp; omega) (by simp; omega)).trans hVD; have hs3 := hg3.size; have ho3 := hownD.kept hg3 (.inr hneR); have hv3 := (cells4 hV3).1.2.2.2; have hv4 := fun (o : Obj) => cell_past o hv3))
      all_goals
        have hst := LInv.step HI.out hlt hju1 hval ho5 hg5 hat5
        obtain ⟨acc2, at3, bad2, hst2⟩ := hst
        have HST2 := Lib.hid hst2
        clear hst2
        go_wp2_with fail
        go_roundw
        case rel => exact ⟨j + 1, acc2, _, _, at3, bad2, by go_num, by omega, HST2⟩
        case measure => simp [intOf]; omega
    · have hrvf : ∃ a len c, rv = .slice a len c := by
        rcases hown.2 with ⟨hh, _⟩ | ⟨g, cp, cur, hh, _⟩
        · exact ⟨none, 0, 0, hh⟩
        · exact ⟨some ⟨g, 0, none⟩, j, cp, hh⟩
      obtain ⟨⟨r0, r1, r2, r3⟩, s0, s1, s2, s3⟩ := cells4 hRb
      have hend : ∀ v0 v1 v2 v3, Left w ((((wr.setCell ⟨w.heap.size, 0, none⟩ v0).setCell ⟨w.heap.size, 1, none⟩ v1).setCell ⟨w.heap.size, 2, none⟩ v2).setCell ⟨w.heap.size, 3, none⟩ v3) rb pa raw cap at2 bad := fun v0 v1 v2 v3 =>
        ⟨(((hRR.store' hlt _).store' hlt _).store' hlt _).store' hlt _, grownBy_store (grownBy_store (grownBy_store (grownBy_store hgr (Nat.le_refl _) _) (Nat.le_refl _) _) (Nat.le_refl _) _) (Nat.le_refl _) _⟩
      cases bad with
      | true =>
        obtain rfl : R = none := HBAD.out rfl
        obtain ⟨a, len, c, rfl⟩ := hrvf
        clear hju HBAD HOK HI
        by_cases hj2 : j < u
        all_goals
          go_wp2_with fail
          refine bodyPost_ret (v := .agg #[.int .i64 3, .int .i64 0, .string ⟨#[]⟩, .slice a len c]) (by simp [results, Try.results35, go_sem, r0, r1, r2, r3]) rfl ?_
          exact ⟨3, 0, ⟨#[]⟩, a, len, c, at2, rfl, hal, hend _ _ _ _⟩
      | false =>
        have hju2 : j = u := by
          rcases Nat.lt_or_ge j u with h | h
          · exact absurd ⟨h, rfl⟩ hju
          · omega
        obtain ⟨hgot, hlen, hrd⟩ := HOK.out rfl
        subst hju2
        have hR2 : R = some ((3, 0, ⟨#[]⟩, acc), raw.drop at2) := by rw [← hrd, Nat.sub_self]; exact listOf_done acc _
        subst hR2
        have hgot2 := hgot.kept (P' := fun k => B8 + 1 ≤ k ∧ k < wr.heap.size) (fun _ _ => rfl) (fun k hk => ⟨hk.1, hk.2.1⟩)
        have hown2 := hown
        rw [← hlen] at hown2
        obtain ⟨a, cp, hrv, hrep⟩ := hgot2.rep hown2 (fun k hk => hown.lt k hk) (by omega)
        subst hrv
        have HREP := Lib.hid hrep
        clear hju HBAD HOK HI hrd hgot hgot2 hown2 hrep hrvf
        go_wp2_with fail
        refine bodyPost_ret (v := .agg #[.int .i64 3, .int .i64 0, .string ⟨#[]⟩, .slice a acc.length cp]) (by simp [results, Try.results35, go_sem, r0, r1, r2, r3]; exact hlen.symm) rfl ?_
        refine ⟨_, at2, rfl, ?_, hal, rfl, hend _ _ _ _⟩
        refine (HREP.out.kept (fun k hk => ?_)).mono (fun k hk => ⟨by have := hk.1; omega, by simp [World.setCell]; exact hk.2⟩)
        have h1 : B8 + 1 ≤ k := hk.1
        have hne : ∀ (W : World) (o : Nat) (u : Value), (W.setCell ⟨w.heap.size, o, none⟩ u).heap[k]? = W.heap[k]? := fun W o u => Below.heap_setCell _ _ _ _ (by simp; omega)
        rw [hne, hne, hne, hne]

theorem drop_cons {raw : List UInt8} {i : Nat} (h : i < raw.length) : raw.drop i = raw[i] :: raw.drop (i + 1) := List.drop_eq_getElem_cons h

/-- Value, at all bytes. -/
theorem rvalue_any : ∀ (deep : Nat) (q : Int) (w : World) (rb : Nat) (pa : Option Addr) (raw : List UInt8) (cap i : Nat), q = 16 - (deep : Int) → deep ≤ 16 → i ≤ raw.length → RR w rb pa raw cap i false →
    Calls Try.prog 35 #[.pointer (some ⟨rb, 0, none⟩), .int .i64 q] w (RVal deep (M.rdVal deep (raw.drop i)) w rb pa raw cap) := by
  intro deep
  induction deep with
  | zero =>
    intro q w rb pa raw cap i hq hd hi h
    by_cases hlt : i < raw.length
    · rw [drop_cons hlt]
      by_cases k1 : raw[i] = 1
      · rw [k1, M.rdVal_int]
        exact rvalue_int w rb pa raw cap i q 0 h hlt (by rw [k1]; rfl) _ rfl
      · by_cases k2 : raw[i] = 2
        · rw [k2, M.rdVal_text]
          exact rvalue_text w rb pa raw cap i q 0 h hlt (by rw [k2]; rfl) _ rfl _ rfl
        · by_cases k3 : raw[i] = 3
          · have hno : M.rdVal 0 (raw[i] :: raw.drop (i + 1)) = none := by rw [k3]; simp [M.rdVal, M.rdWith]
            rw [hno]
            cases hn : M.rdNum 0 0 (raw.drop (i + 1)) with
            | none => exact rvalue_list_badnum w rb pa raw cap i q 0 h hlt (by rw [k3]; rfl) hn
            | some p =>
              obtain ⟨u, rest⟩ := p
              by_cases hl : u ≤ rest.length
              · exact rvalue_list_deep w rb pa raw cap i q 0 h hlt (by rw [k3]; rfl) (by omega) u rest hn hl
              · exact rvalue_list_long w rb pa raw cap i q 0 h hlt (by rw [k3]; rfl) u rest hn (by omega)
          · have hno : M.rdVal 0 (raw[i] :: raw.drop (i + 1)) = none := by simp only [M.rdVal, M.rdWith, k1, k2, k3, if_false]
            rw [hno]
            exact rvalue_other w rb pa raw cap i q 0 h hlt (fun hh => k1 (UInt8.toNat_inj.1 hh)) (fun hh => k2 (UInt8.toNat_inj.1 hh)) (fun hh => k3 (UInt8.toNat_inj.1 hh))
    · obtain rfl : i = raw.length := by omega
      have hno : M.rdVal 0 (raw.drop raw.length) = none := by rw [List.drop_length]; rfl
      rw [hno]; exact rvalue_end w rb pa raw cap q 0 h
  | succ e ih =>
    intro q w rb pa raw cap i hq hd hi h
    by_cases hlt : i < raw.length
    · rw [drop_cons hlt]
      by_cases k1 : raw[i] = 1
      · rw [k1, M.rdVal_int]
        exact rvalue_int w rb pa raw cap i q (e + 1) h hlt (by rw [k1]; rfl) _ rfl
      · by_cases k2 : raw[i] = 2
        · rw [k2, M.rdVal_text]
          exact rvalue_text w rb pa raw cap i q (e + 1) h hlt (by rw [k2]; rfl) _ rfl _ rfl
        · by_cases k3 : raw[i] = 3
          · have hl3 : M.rdVal (e + 1) (raw[i] :: raw.drop (i + 1)) = (M.rdNum 0 0 (raw.drop (i + 1))).bind fun p => (M.rdMany (M.rdVal e) p.1 p.2).map fun q => ((3, 0, ⟨#[]⟩, q.1), q.2) := by rw [k3, M.rdVal_list]
            rw [hl3]
            cases hn : M.rdNum 0 0 (raw.drop (i + 1)) with
            | none => exact rvalue_list_badnum w rb pa raw cap i q (e + 1) h hlt (by rw [k3]; rfl) hn
            | some p =>
              obtain ⟨u, rest⟩ := p
              by_cases hl : u ≤ rest.length
              · exact rvalue_list_ok w rb pa raw cap i q h hlt (by rw [k3]; rfl) e (by omega) (by omega) u rest hn hl _ rfl (fun W at2 hat hr => ih (q + 1) W rb pa raw cap at2 (by omega) (by omega) hat hr)
              · have hno : ((some (u, rest)).bind fun p => (M.rdMany (M.rdVal e) p.1 p.2).map fun q => (((3, 0, ⟨#[]⟩, q.1) : M.T (e + 2)), q.2)) = none := by
                  cases hm : M.rdMany (M.rdVal e) u rest with
                  | none => simp only [Option.bind_some, hm, Option.map_none]
                  | some q =>
                    exfalso
                    obtain ⟨l, r⟩ := q
                    have := (M.rdMany_le (fun bs x r hh => M.rdVal_less e bs x r hh) u rest l r hm).1
                    omega
                rw [hno]
                exact rvalue_list_long w rb pa raw cap i q (e + 1) h hlt (by rw [k3]; rfl) u rest hn (by omega)
          · have hno : M.rdVal (e + 1) (raw[i] :: raw.drop (i + 1)) = none := by simp only [M.rdVal, M.rdWith, k1, k2, k3, if_false]
            rw [hno]
            exact rvalue_other w rb pa raw cap i q (e + 1) h hlt (fun hh => k1 (UInt8.toNat_inj.1 hh)) (fun hh => k2 (UInt8.toNat_inj.1 hh)) (fun hh => k3 (UInt8.toNat_inj.1 hh))
    · obtain rfl : i = raw.length := by omega
      have hno : M.rdVal (e + 1) (raw.drop raw.length) = none := by rw [List.drop_length]; rfl
      rw [hno]; exact rvalue_end w rb pa raw cap q (e + 1) h

end Go.Proofs.Ytmhchpdogjbpmaa
