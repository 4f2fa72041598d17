/- Contracts of the reader's value and list. -/
import Derived.Test.YtmhchpdogjbpmaaNumeral
import Derived.Deep.RegionHeld3
import Derived.Deep.RegionWith
import Derived.Deep.AppendLies
namespace Go.Proofs.Ytmhchpdogjbpmaa
open Go.RowKit

/-- In the world w, the value v of api.Value reads as the tree t; all its memory lies in blocks with property P. -/
def RepP (P : Nat → Prop) (w : World) : (d : Nat) → M.T d → Value → Prop
  | 0, _, _ => False
  | d + 1, (k, n, s, l), v => (-9223372036854775808 ≤ k ∧ k ≤ 9223372036854775807) ∧ (-9223372036854775808 ≤ n ∧ n ≤ 9223372036854775807) ∧ s.size ≤ 140737488351232 ∧ l.length ≤ 70368744177664 ∧
    ∃ a cap, v = .agg #[.int .i64 k, .int .i64 n, .string s, .slice a l.length cap] ∧
      (l = [] ∨ ∃ b off, a = some ⟨b, off, none⟩ ∧ P b ∧ ∀ i x, l[i]? = some x → ∃ c0 c1 c2 c3,
        w.cell? ⟨b, off + i * 4, none⟩ = some c0 ∧ w.cell? ⟨b, off + i * 4 + 1, none⟩ = some c1 ∧ w.cell? ⟨b, off + i * 4 + 2, none⟩ = some c2 ∧ w.cell? ⟨b, off + i * 4 + 3, none⟩ = some c3 ∧
        RepP P w d x (.agg #[c0, c1, c2, c3]))

theorem RepP.kept {P : Nat → Prop} {w w' : World} (h : ∀ k, P k → w'.heap[k]? = w.heap[k]?) : ∀ {d : Nat} {t : M.T d} {v : Value}, RepP P w d t v → RepP P w' d t v
  | 0, _, _, hr => hr
  | d + 1, (k, n, s, l), v, ⟨h1, h2, h3, h4, a, cap, hv, hl⟩ => by
    refine ⟨h1, h2, h3, h4, a, cap, hv, ?_⟩
    rcases hl with hl | ⟨b, off, ha, hb, hc⟩
    · exact .inl hl
    · refine .inr ⟨b, off, ha, hb, fun i x hx => ?_⟩
      obtain ⟨c0, c1, c2, c3, e0, e1, e2, e3, hr⟩ := hc i x hx
      have hh : ∀ o, w'.cell? ⟨b, o, none⟩ = w.cell? ⟨b, o, none⟩ := fun o => World.cell?_of_block (w := w) (h b hb)
      exact ⟨c0, c1, c2, c3, (hh _).trans e0, (hh _).trans e1, (hh _).trans e2, (hh _).trans e3, RepP.kept h hr⟩

theorem RepP.mono {P P' : Nat → Prop} {w : World} (h : ∀ k, P k → P' k) : ∀ {d : Nat} {t : M.T d} {v : Value}, RepP P w d t v → RepP P' w d t v
  | 0, _, _, hr => hr
  | d + 1, (k, n, s, l), v, ⟨h1, h2, h3, h4, a, cap, hv, hl⟩ => by
    refine ⟨h1, h2, h3, h4, a, cap, hv, ?_⟩
    rcases hl with hl | ⟨b, off, ha, hb, hc⟩
    · exact .inl hl
    · refine .inr ⟨b, off, ha, h b hb, fun i x hx => ?_⟩
      obtain ⟨c0, c1, c2, c3, e0, e1, e2, e3, hr⟩ := hc i x hx
      exact ⟨c0, c1, c2, c3, e0, e1, e2, e3, RepP.mono h hr⟩

theorem RepP.rep {P : Nat → Prop} {w : World} {B : Nat} (h : ∀ k, P k → k < B) : ∀ {d : Nat} {t : M.T d} {v : Value}, RepP P w d t v → Rep B w d t v
  | 0, _, _, hr => hr
  | d + 1, (k, n, s, l), v, ⟨h1, h2, h3, h4, a, cap, hv, hl⟩ => by
    refine ⟨h1, h2, h3, h4, a, cap, hv, ?_⟩
    rcases hl with hl | ⟨b, off, ha, hb, hc⟩
    · exact .inl hl
    · refine .inr ⟨b, off, ha, h b hb, fun i x hx => ?_⟩
      obtain ⟨c0, c1, c2, c3, e0, e1, e2, e3, hr⟩ := hc i x hx
      exact ⟨c0, c1, c2, c3, e0, e1, e2, e3, RepP.rep h hr⟩

/-- What value hands back, or how it panics. -/
def ValRes (rb deep : Nat) (r : Option (M.T (deep + 1) × List UInt8)) (w : World) (e : Ending) (w' : World) : Prop :=
  w.grownBy w' (some rb) ∧ match r with
    | some (t, rest) => RS w' rb rest ∧ ∃ v, e = .returned v ∧ RepP (fun k => w.heap.size ≤ k ∧ k < w'.heap.size) w' (deep + 1) t v
    | none => Bad e

theorem RS.lt {w : World} {rb : Nat} {bs : List UInt8} (h : RS w rb bs) : rb < w.heap.size := by
  obtain ⟨_, _, a, cap, hc, _⟩ := h
  exact block_lt_of_cell hc

/-- The state is what it was behind a new block. -/
theorem RS.alloc {w : World} {rb : Nat} {bs : List UInt8} (h : RS w rb bs) (o : Obj) : RS (w.alloc o) rb bs := by
  have hlt := h.lt
  obtain ⟨hf, hl, a, cap, hc, hcap, hcs⟩ := h
  have hb : Below w.heap.size w (w.alloc o) := (Below.refl _ _).alloc (Nat.le_refl _) _
  refine ⟨(hb.frozen (p := ⟨rb, 0, none⟩) hlt).trans hf, hl, a, cap, (hb.cell (p := ⟨rb, 0, none⟩) hlt).trans hc, hcap, fun i h => ?_⟩
  obtain ⟨ad, ha, hne, hcell⟩ := hcs i h
  exact ⟨ad, ha, hne, (hb.cell (block_lt_of_cell hcell)).trans hcell⟩

/-- The state is what it was behind a store into a newer block. -/
theorem RS.store {w : World} {rb blk o : Nat} {bs : List UInt8} (h : RS w rb bs) (hb : rb < blk) (u : Value) : RS (w.setCell ⟨blk, o, none⟩ u) rb bs := by
  obtain ⟨hf, hl, a, cap, hc, hcap, hcs⟩ := h
  have hh : ∀ k, k ≠ blk → (w.setCell ⟨blk, o, none⟩ u).heap[k]? = w.heap[k]? := fun k hk => Below.heap_setCell _ _ _ _ (by simpa using hk)
  refine ⟨(World.frozen?_of_block (w := w) (hh rb (by omega))).trans hf, hl, a, cap, (World.cell?_of_block (w := w) (hh rb (by omega))).trans hc, hcap, fun i h => ?_⟩
  obtain ⟨ad, ha, hne, hcell⟩ := hcs i h
  exact ⟨ad, ha, hne, (World.cell?_of_block (w := w) (hh _ (by rw [add_block]; omega))).trans hcell⟩

theorem grownBy_store {w w' : World} {row : Option Nat} (h : w.grownBy w' row) {blk o : Nat} (hb : w.heap.size ≤ blk) (u : Value) : w.grownBy (w'.setCell ⟨blk, o, none⟩ u) row :=
  ⟨h.os, h.tape, h.output, by simpa [World.setCell] using h.size, fun k hk hn => (Below.heap_setCell _ _ _ _ (by simp; omega)).trans (h.block k hk hn)⟩

theorem grownBy_alloc {w w' : World} {row : Option Nat} (o : Obj) (h : (w.alloc o).grownBy w' row) : w.grownBy w' row := grownBy_trans (World.grownBy_alloc w o row) h

/-- The cell that take has found, in the world behind. -/
theorem took_cell {rb : Nat} {c : UInt8} {r : List UInt8} {w w1 : World} {a : Option Addr} (h : ∀ i (_ : i < 1) (h' : i < (c :: r).length), ∃ ad, a = some ad ∧ ad.block < rb ∧ w.cell? (ad.add i) = some (.int .u8 ((c :: r)[i]).toNat)) (hg : w.grownBy w1 (some rb)) :
    ∃ ad, a = some ad ∧ w1.cell? ad = some (.int .u8 c.toNat) := by
  obtain ⟨ad, rfl, hb, hc⟩ := h 0 (by omega) (by simp)
  exact ⟨ad, rfl, hg.cell (by simpa [Addr.add] using hc) (by simp; omega)⟩

/-- A new variable of type api.Value, in every world behind that turns only the reader's block. -/
theorem box_kept {w w1 : World} {rb : Nat} {v0 v1 v2 v3 : Value} {t : TypeId} (hlt : rb < w.heap.size) (hg : (w.alloc (.cells #[v0, v1, v2, v3] t)).grownBy w1 (some rb)) :
    w1.heap[w.heap.size]? = some (.cells #[v0, v1, v2, v3] t (0, 0)) := by
  rw [hg.block w.heap.size (by simp) (by simp; omega)]
  exact heap_alloc_new w _

theorem cells4 {w : World} {B : Nat} {v0 v1 v2 v3 : Value} {t : TypeId} (h : w.heap[B]? = some (.cells #[v0, v1, v2, v3] t (0, 0))) :
    (w.cell? ⟨B, 0, none⟩ = some v0 ∧ w.cell? ⟨B, 1, none⟩ = some v1 ∧ w.cell? ⟨B, 2, none⟩ = some v2 ∧ w.cell? ⟨B, 3, none⟩ = some v3) ∧
    (w.frozen? ⟨B, 0, none⟩ = false ∧ w.frozen? ⟨B, 1, none⟩ = false ∧ w.frozen? ⟨B, 2, none⟩ = false ∧ w.frozen? ⟨B, 3, none⟩ = false) := by
  refine ⟨⟨?_, ?_, ?_, ?_⟩, ⟨?_, ?_, ?_, ?_⟩⟩
  all_goals first
    | (rw [cell_of_row w B _ _ _ _ h]; rfl)
    | (simp [World.frozen?, h])

set_option maxRecDepth 100000 in
set_option maxHeartbeats 2000000 in
theorem value_none (rb deep : Nat) (w : World) (h : RS w rb []) :
    Calls Try.prog 33 #[.pointer (some ⟨rb, 0, none⟩), .int .i64 deep] w (ValRes rb deep none w) := by
  have ht := take_none rb _ (h.alloc (.cells #[.int .i64 0, .int .i64 0, .string ⟨#[]⟩, .slice none 0 0] 24))
  have HT := Lib.hid ht; clear ht
  go_enter Try.func33, Try.ntmps33
  go_wp2_with (go_at_call 41; (with_reducible refine (HT.out).mono ?_); rintro e w1 ⟨hbad, rfl⟩; unfold Bad at hbad; subst hbad)
  exact ⟨rfl, World.grownBy_alloc _ _ _, rfl⟩

set_option maxRecDepth 100000 in
set_option maxHeartbeats 2000000 in
theorem value_int (rb deep : Nat) (r : List UInt8) (w : World) (h : RS w rb (1 :: r)) (q : Option (Nat × List UInt8)) (hq : M.rdNum 0 0 r = q) :
    Calls Try.prog 33 #[.pointer (some ⟨rb, 0, none⟩), .int .i64 deep] w (ValRes rb deep (match q with
      | none => none
      | some (u, r') => some ((1, M.sig u, ⟨#[]⟩, []), r')) w) := by
  have hlt := h.lt
  have ht := take_one rb 1 r _ (h.alloc (.cells #[.int .i64 0, .int .i64 0, .string ⟨#[]⟩, .slice none 0 0] 24))
  have HT := Lib.hid ht; clear ht
  go_enter Try.func33, Try.ntmps33
  cases q with
  | none =>
    go_wp2_with (first
      | (go_at_call 41; (with_reducible refine (HT.out).mono ?_); rintro e w1 ⟨a1, rfl, hc1, hr1, hg1⟩; obtain ⟨ad, rfl, hcell⟩ := took_cell hc1 hg1)
      | (go_at_call 43; refine (numeral_any rb _ _ hr1 none hq).mono ?_; rintro e w2 ⟨hg2, hbad⟩; unfold Bad at hbad; subst hbad))
    exact ⟨rfl, grownBy_alloc _ (grownBy_trans hg1 hg2), rfl⟩
  | some p =>
    obtain ⟨u, r'⟩ := p
    go_wp2_with (first
      | (go_at_call 41; (with_reducible refine (HT.out).mono ?_); rintro e w1 ⟨a1, rfl, hc1, hr1, hg1⟩; obtain ⟨ad, rfl, hcell⟩ := took_cell hc1 hg1; have hbx1 := box_kept hlt hg1)
      | (go_at_call 43; refine (numeral_any rb _ _ hr1 _ hq).mono ?_; rintro e w2 ⟨hg2, he, hu, hr2⟩; subst he)
      | (go_at_call 42; refine (signed_any _ _ (by omega) (by omega)).mono ?_; rintro e w3 ⟨rfl, rfl⟩; have hbx2 := (hg2.block w.heap.size (by have := hg1.size; simp at this; omega) (by simp; omega)).trans hbx1; obtain ⟨⟨d0, d1, d2, d3⟩, g0, g1, g2, g3⟩ := cells4 hbx2))
    refine bodyPost_ret (v := .agg #[.int .i64 1, .int .i64 (M.sig u), .string ⟨#[]⟩, .slice none 0 0]) (by simp [results, Try.results33, go_sem, d0, d1, d2, d3]) rfl ?_
    have hg := grownBy_alloc _ (grownBy_trans hg1 hg2)
    refine ⟨?_, ?_, _, rfl, by decide, M.sig_bd _ (by omega) (by omega), by decide, Nat.zero_le _, none, 0, rfl, .inl rfl⟩
    · exact grownBy_store (grownBy_store (grownBy_store (grownBy_store hg (Nat.le_refl _) _) (Nat.le_refl _) _) (Nat.le_refl _) _) (Nat.le_refl _) _
    · exact (((hr2.store hlt _).store hlt _).store hlt _).store hlt _

/-- 'string(b)', b what take has handed back. -/
theorem string_back {rb n cap : Nat} {bs : List UInt8} {w w1 : World} {a : Option Addr} (hn : n ≤ bs.length) (h : ∀ i (_ : i < n) (h' : i < bs.length), ∃ ad, a = some ad ∧ ad.block < rb ∧ w.cell? (ad.add i) = some (.int .u8 (bs[i]).toNat)) (hg : w.grownBy w1 (some rb)) :
    (convert 27 9 (.slice a n cap)).run Try.prog w1 = .ok (.string ⟨(bs.take n).toArray⟩) w1 := by
  cases a with
  | none =>
    have h0 : n = 0 := by
      rcases Nat.eq_zero_or_pos n with h0 | h0
      · exact h0
      · obtain ⟨ad, ha, _⟩ := h 0 h0 (by omega); simp at ha
    subst h0
    rw [run_convert_bytes_string w1 _ _ 5 none 0 cap Try.underlying27 Try.underlying5 Try.underlying9]
    simp [Conv.bytesToString]
    rfl
  | some ad =>
    have := run_convert_bytes_back (P := Try.prog) w1 27 9 5 ad cap (bs.take n) Try.underlying27 Try.underlying5 Try.underlying9 (fun j hj => by
      rw [List.length_take] at hj
      obtain ⟨ad', ha, hb, hc⟩ := h j (by omega) (by omega)
      simp only [Option.some.injEq] at ha
      subst ha
      simpa using hg.cell hc (by rw [add_block]; simp; omega))
    rw [List.length_take, Nat.min_eq_left hn] at this
    exact this

set_option maxRecDepth 100000 in
set_option maxHeartbeats 2000000 in
/-- A text or a list whose numeral cannot be read. -/
theorem value_badnum (rb deep : Nat) (r : List UInt8) (w : World) (h : RS w rb (2 :: r)) (hq : M.rdNum 0 0 r = none) :
    Calls Try.prog 33 #[.pointer (some ⟨rb, 0, none⟩), .int .i64 deep] w (ValRes rb deep none w) := by
  have ht := take_one rb 2 r _ (h.alloc (.cells #[.int .i64 0, .int .i64 0, .string ⟨#[]⟩, .slice none 0 0] 24))
  have HT := Lib.hid ht; clear ht
  go_enter Try.func33, Try.ntmps33
  go_wp2_with (first
    | (go_at_call 41; (with_reducible refine (HT.out).mono ?_); rintro e w1 ⟨a1, rfl, hc1, hr1, hg1⟩; obtain ⟨ad, rfl, hcell⟩ := took_cell hc1 hg1)
    | (go_at_call 43; refine (numeral_any rb _ _ hr1 none hq).mono ?_; rintro e w2 ⟨hg2, hbad⟩; unfold Bad at hbad; subst hbad))
  exact ⟨rfl, grownBy_alloc _ (grownBy_trans hg1 hg2), rfl⟩

set_option maxRecDepth 100000 in
set_option maxHeartbeats 2000000 in
theorem value_text_short (rb deep : Nat) (r : List UInt8) (w : World) (h : RS w rb (2 :: r)) (n : Nat) (r' : List UInt8) (hq : M.rdNum 0 0 r = some (n, r')) (hn : r'.length < n) :
    Calls Try.prog 33 #[.pointer (some ⟨rb, 0, none⟩), .int .i64 deep] w (ValRes rb deep none w) := by
  have ht := take_one rb 2 r _ (h.alloc (.cells #[.int .i64 0, .int .i64 0, .string ⟨#[]⟩, .slice none 0 0] 24))
  have HT := Lib.hid ht; clear ht
  have HN := Lib.hid hn; clear hn
  go_enter Try.func33, Try.ntmps33
  go_wp2_with (first
    | (go_at_call 41; (with_reducible refine (HT.out).mono ?_); rintro e w1 ⟨a1, rfl, hc1, hr1, hg1⟩; obtain ⟨ad, rfl, hcell⟩ := took_cell hc1 hg1; clear hc1)
    | (go_at_call 43; refine (numeral_any rb _ _ hr1 _ hq).mono ?_; rintro e w2 ⟨hg2, he, hu, hr2⟩; subst he)
    | (go_at_call 41; refine (take_bad rb _ r' _ (by have := HN.out; omega) hr2).mono ?_; rintro e w3 ⟨hbad, rfl⟩; unfold Bad at hbad; subst hbad))
  exact ⟨rfl, grownBy_alloc _ (grownBy_trans hg1 hg2), rfl⟩

set_option maxRecDepth 100000 in
set_option maxHeartbeats 2000000 in
theorem value_text (rb deep : Nat) (r : List UInt8) (w : World) (h : RS w rb (2 :: r)) (n : Nat) (r' : List UInt8) (hq : M.rdNum 0 0 r = some (n, r')) (hn : n ≤ r'.length) :
    Calls Try.prog 33 #[.pointer (some ⟨rb, 0, none⟩), .int .i64 deep] w (ValRes rb deep (some ((2, 0, ⟨(r'.take n).toArray⟩, []), r'.drop n)) w) := by
  have hlt := h.lt
  have ht := take_one rb 2 r _ (h.alloc (.cells #[.int .i64 0, .int .i64 0, .string ⟨#[]⟩, .slice none 0 0] 24))
  have HT := Lib.hid ht; clear ht
  have HN := Lib.hid hn; clear hn
  go_enter Try.func33, Try.ntmps33
  go_wp2_with (first
    | (go_at_call 41; (with_reducible refine (HT.out).mono ?_); rintro e w1 ⟨a1, rfl, hc1, hr1, hg1⟩; obtain ⟨ad, rfl, hcell⟩ := took_cell hc1 hg1; have hbx1 := box_kept hlt hg1; clear hc1)
    | (go_at_call 43; refine (numeral_any rb _ _ hr1 _ hq).mono ?_; rintro e w2 ⟨hg2, he, hu, hr2⟩; subst he)
    | (go_at_call 41; refine (take_ok rb n r' _ HN.out hr2).mono ?_; rintro e w3 ⟨a3, rfl, hc3, hr3, hg3⟩; have hcv := string_back (cap := n) HN.out hc3 hg3; clear hc3; have hbx2 := (hg2.block w.heap.size (by have := hg1.size; simp at this; omega) (by simp; omega)).trans hbx1; have hbx3 := (hg3.block w.heap.size (by have := hg1.size; have := hg2.size; simp at *; omega) (by simp; omega)).trans hbx2; obtain ⟨⟨d0, d1, d2, d3⟩, g0, g1, g2, g3⟩ := cells4 hbx3))
  have hlen := hr2.2.1
  generalize hs : (⟨(r'.take n).toArray⟩ : ByteArray) = s at *
  have hsz : s.size ≤ 140737488351232 := by rw [← hs]; show (r'.take n).toArray.size ≤ _; have := HN.out; simp; omega
  refine bodyPost_ret (v := .agg #[.int .i64 2, .int .i64 0, .string s, .slice none 0 0]) (by simp [results, Try.results33, go_sem, d0, d1, d2, d3]) rfl ?_
  have hg := grownBy_alloc _ (grownBy_trans hg1 (grownBy_trans hg2 hg3))
  refine ⟨?_, ?_, _, rfl, by decide, by decide, hsz, Nat.zero_le _, none, 0, rfl, .inl rfl⟩
  · exact grownBy_store (grownBy_store (grownBy_store (grownBy_store hg (Nat.le_refl _) _) (Nat.le_refl _) _) (Nat.le_refl _) _) (Nat.le_refl _) _
  · exact (((hr3.store hlt _).store hlt _).store hlt _).store hlt _

set_option maxRecDepth 100000 in
set_option maxHeartbeats 2000000 in
theorem value_other (rb deep : Nat) (c : UInt8) (r : List UInt8) (w : World) (h : RS w rb (c :: r)) (h1 : c.toNat ≠ 1) (h2 : c.toNat ≠ 2) (h3 : c.toNat ≠ 3) :
    Calls Try.prog 33 #[.pointer (some ⟨rb, 0, none⟩), .int .i64 deep] w (ValRes rb deep none w) := by
  have ht := take_one rb c r _ (h.alloc (.cells #[.int .i64 0, .int .i64 0, .string ⟨#[]⟩, .slice none 0 0] 24))
  have HT := Lib.hid ht; clear ht
  have t1 : ((c.toNat : Int) == 1) = false := by rw [beq_eq_false_iff_ne]; omega
  have t2 : ((c.toNat : Int) == 2) = false := by rw [beq_eq_false_iff_ne]; omega
  have t3 : ((c.toNat : Int) == 3) = false := by rw [beq_eq_false_iff_ne]; omega
  go_enter Try.func33, Try.ntmps33
  go_wp2_with (go_at_call 41; (with_reducible refine (HT.out).mono ?_); rintro e w1 ⟨a1, rfl, hc1, hr1, hg1⟩; obtain ⟨ad, rfl, hcell⟩ := took_cell hc1 hg1; clear hc1)
  exact ⟨rfl, grownBy_alloc _ hg1, rfl⟩

set_option maxRecDepth 100000 in
set_option maxHeartbeats 2000000 in
theorem value_list_bad (rb deep : Nat) (r : List UInt8) (w : World) (h : RS w rb (3 :: r))
    (hl : ∀ W, RS W rb r → Calls Try.prog 44 #[.pointer (some ⟨rb, 0, none⟩), .int .i64 deep] W (ValRes rb deep none W)) :
    Calls Try.prog 33 #[.pointer (some ⟨rb, 0, none⟩), .int .i64 deep] w (ValRes rb deep none w) := by
  have ht := take_one rb 3 r _ (h.alloc (.cells #[.int .i64 0, .int .i64 0, .string ⟨#[]⟩, .slice none 0 0] 24))
  have HT := Lib.hid ht; clear ht
  have HL := Lib.hid hl; clear hl
  go_enter Try.func33, Try.ntmps33
  go_wp2_with (first
    | (go_at_call 41; (with_reducible refine (HT.out).mono ?_); rintro e w1 ⟨a1, rfl, hc1, hr1, hg1⟩; obtain ⟨ad, rfl, hcell⟩ := took_cell hc1 hg1; clear hc1)
    | (go_at_call 44; refine (HL.out _ hr1).mono ?_; rintro e w2 ⟨hg2, hbad⟩; unfold Bad at hbad; subst hbad))
  exact ⟨rfl, grownBy_alloc _ (grownBy_trans hg1 hg2), rfl⟩

set_option maxRecDepth 100000 in
set_option maxHeartbeats 2000000 in
theorem value_list (rb deep : Nat) (r : List UInt8) (w : World) (h : RS w rb (3 :: r)) (t : M.T (deep + 1)) (rest : List UInt8)
    (hl : ∀ W, RS W rb r → Calls Try.prog 44 #[.pointer (some ⟨rb, 0, none⟩), .int .i64 deep] W (ValRes rb deep (some (t, rest)) W)) :
    Calls Try.prog 33 #[.pointer (some ⟨rb, 0, none⟩), .int .i64 deep] w (ValRes rb deep (some (t, rest)) w) := by
  have hlt := h.lt
  have ht := take_one rb 3 r _ (h.alloc (.cells #[.int .i64 0, .int .i64 0, .string ⟨#[]⟩, .slice none 0 0] 24))
  have HT := Lib.hid ht; clear ht
  have HL := Lib.hid hl; clear hl
  obtain ⟨k, n, s, l⟩ := t
  go_enter Try.func33, Try.ntmps33
  go_wp2_with (first
    | (go_at_call 41; (with_reducible refine (HT.out).mono ?_); rintro e w1 ⟨a1, rfl, hc1, hr1, hg1⟩; obtain ⟨ad, rfl, hcell⟩ := took_cell hc1 hg1; have hbx1 := box_kept hlt hg1; clear hc1)
    | (go_at_call 44; refine (HL.out _ hr1).mono ?_; rintro e w2 ⟨hg2, hr2, v2, he, hrep⟩; subst he; obtain ⟨q1, q2, q3, q4, a2, cap2, hv2, hl2⟩ := hrep; subst hv2; have hbx2 := (hg2.block w.heap.size (by have := hg1.size; simp at this; omega) (by simp; omega)).trans hbx1; obtain ⟨⟨d0, d1, d2, d3⟩, g0, g1, g2, g3⟩ := cells4 hbx2))
  refine bodyPost_ret (v := .agg #[.int .i64 k, .int .i64 n, .string s, .slice a2 l.length cap2]) (by simp [results, Try.results33, go_sem, d0, d1, d2, d3]) rfl ?_
  have hg := grownBy_alloc _ (grownBy_trans hg1 hg2)
  have h1s : w.heap.size < w1.heap.size := by have := hg1.size; simp at this; omega
  have hrep : RepP (fun k => w1.heap.size ≤ k ∧ k < w2.heap.size) w2 (deep + 1) (k, n, s, l) (.agg #[.int .i64 k, .int .i64 n, .string s, .slice a2 l.length cap2]) := ⟨q1, q2, q3, q4, a2, cap2, rfl, hl2⟩
  refine ⟨?_, ?_, _, rfl, ?_⟩
  · exact grownBy_store (grownBy_store (grownBy_store (grownBy_store hg (Nat.le_refl _) _) (Nat.le_refl _) _) (Nat.le_refl _) _) (Nat.le_refl _) _
  · exact (((hr2.store hlt _).store hlt _).store hlt _).store hlt _
  · refine (hrep.kept (fun j hj => ?_)).mono (fun j hj => ⟨by omega, by simp [World.setCell]; omega⟩)
    have hne : ∀ (W : World) (o : Nat) (u : Value), (W.setCell ⟨w.heap.size, o, none⟩ u).heap[j]? = W.heap[j]? := fun W o u => Below.heap_setCell _ _ _ _ (by simp; omega)
    rw [hne, hne, hne, hne]

end Go.Proofs.Ytmhchpdogjbpmaa
