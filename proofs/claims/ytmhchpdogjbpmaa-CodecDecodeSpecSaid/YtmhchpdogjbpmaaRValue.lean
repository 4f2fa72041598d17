/- Contracts of the reference's reader: Value, but for lists. -/
import Derived.Test.YtmhchpdogjbpmaaRNext
import Derived.Test.YtmhchpdogjbpmaaTrees
namespace Go.Proofs.Ytmhchpdogjbpmaa
open Go.RowKit

/-- What Value hands back. -/
def RVal (deep : Nat) (r : Option (M.T (deep + 1) × List UInt8)) (w : World) (rb : Nat) (pa : Option Addr) (raw : List UInt8) (cap : Nat) (e : Ending) (w' : World) : Prop :=
  match r with
  | some (t, rest) => ∃ v at', e = .returned v ∧ RepP (fun k => w.heap.size ≤ k ∧ k < w'.heap.size) w' (deep + 1) t v ∧ at' ≤ raw.length ∧ rest = raw.drop at' ∧ Left w w' rb pa raw cap at' false
  | none => ∃ (k n : Int) (s : ByteArray) (a : Option Addr) (len c at' : Nat), e = .returned (.agg #[.int .i64 k, .int .i64 n, .string s, .slice a len c]) ∧ at' ≤ raw.length ∧ Left w w' rb pa raw cap at' true

theorem RR.store' {w : World} {rb B o : Nat} {pa : Option Addr} {raw : List UInt8} {cap at' : Nat} {bad : Bool} (h : RR w rb pa raw cap at' bad) (hb : rb < B) (u : Value) : RR (w.setCell ⟨B, o, none⟩ u) rb pa raw cap at' bad := by
  have hlt := h.lt
  obtain ⟨h1, h2, h3, h4⟩ := h
  have hh : ∀ k, k ≠ B → (w.setCell ⟨B, o, none⟩ u).heap[k]? = w.heap[k]? := fun k hk => Below.heap_setCell _ _ _ _ (by simpa using hk)
  refine ⟨(hh rb (by omega)).trans h1, h2, h3, fun i hi => ?_⟩
  obtain ⟨ad, ha, hl, hc⟩ := h4 i hi
  exact ⟨ad, ha, hl, (World.cell?_of_block (w := w) (hh _ (by rw [add_block]; omega))).trans hc⟩

/-- Behind four stores into the result. -/
theorem Left.ret {w w1 w2 : World} {rb : Nat} {pa : Option Addr} {raw : List UInt8} {cap at' : Nat} {bad : Bool} (hlt : rb < w.heap.size) {o : Obj} (h : Left (w.alloc o) w2 rb pa raw cap at' bad) (v0 v1 v2 v3 : Value)
    (hw : w1 = (((w2.setCell ⟨w.heap.size, 0, none⟩ v0).setCell ⟨w.heap.size, 1, none⟩ v1).setCell ⟨w.heap.size, 2, none⟩ v2).setCell ⟨w.heap.size, 3, none⟩ v3) : Left w w1 rb pa raw cap at' bad := by
  subst hw
  obtain ⟨h1, h2⟩ := h
  have hg := grownBy_alloc _ h2
  exact ⟨(((h1.store' hlt _).store' hlt _).store' hlt _).store' hlt _, grownBy_store (grownBy_store (grownBy_store (grownBy_store hg (Nat.le_refl _) _) (Nat.le_refl _) _) (Nat.le_refl _) _) (Nat.le_refl _) _⟩

/-- The result's variable, behind calls. -/
theorem Left.box {w w1 : World} {rb : Nat} {pa : Option Addr} {raw : List UInt8} {cap at' : Nat} {bad : Bool} (hlt : rb < w.heap.size) {v0 v1 v2 v3 : Value} {t : TypeId} (h : Left (w.alloc (.cells #[v0, v1, v2, v3] t)) w1 rb pa raw cap at' bad) :
    w1.heap[w.heap.size]? = some (.cells #[v0, v1, v2, v3] t (0, 0)) := box_kept hlt h.2

theorem Left.drew {a b : World} {rb : Nat} {pa : Option Addr} {raw : List UInt8} {cap i : Nat} {x : Bool} (h : Left a b rb pa raw cap i x) : Left a b.drew rb pa raw cap i x := ⟨⟨h.1.1, h.1.2.1, h.1.2.2.1, h.1.2.2.2⟩, ⟨h.2.os, h.2.tape, h.2.output, h.2.size, h.2.block⟩⟩

theorem RR.alloc {w : World} {rb : Nat} {pa : Option Addr} {raw : List UInt8} {cap at' : Nat} {bad : Bool} (h : RR w rb pa raw cap at' bad) (o : Obj) : RR (w.alloc o) rb pa raw cap at' bad := h.kept ((Below.refl _ _).alloc (Nat.le_refl _) _)

theorem Left.trans {a b c : World} {rb : Nat} {pa : Option Addr} {raw : List UInt8} {cap i j : Nat} {x y : Bool} (h : Left a b rb pa raw cap i x) (k : Left b c rb pa raw cap j y) : Left a c rb pa raw cap j y := ⟨k.1, grownBy_trans h.2 k.2⟩
theorem Left.bad {a b : World} {rb : Nat} {pa : Option Addr} {raw : List UInt8} {cap i : Nat} {x : Bool} (h : Left a b rb pa raw cap i x) : Left a (b.setCell ⟨rb, 2, none⟩ (.bool true)) rb pa raw cap i true := ⟨set_bad h.1, grownBy_trans h.2 (grownBy_set _ _ _ _)⟩

set_option maxRecDepth 100000 in
set_option maxHeartbeats 2000000 in
theorem rvalue_other (w : World) (rb : Nat) (pa : Option Addr) (raw : List UInt8) (cap i : Nat) (q : Int) (deep : Nat) (h : RR w rb pa raw cap i false) (hi : i < raw.length) (h1 : (raw[i]).toNat ≠ 1) (h2 : (raw[i]).toNat ≠ 2) (h3 : (raw[i]).toNat ≠ 3) :
    Calls Try.prog 35 #[.pointer (some ⟨rb, 0, none⟩), .int .i64 q] w (RVal deep none w rb pa raw cap) := by
  have hlt := h.lt
  have hN := Lib.hid (next_ok _ rb pa raw cap i false (h.alloc (.cells #[.int .i64 0, .int .i64 0, .string ⟨#[]⟩, .slice none 0 0] 24)) hi)
  have hc256 : (raw[i]).toNat < 256 := UInt8.toNat_lt _
  generalize hcv : (raw[i]).toNat = cv at *
  have t1 : ((cv : Int) == 1) = false := by rw [beq_eq_false_iff_ne]; omega
  have t2 : ((cv : Int) == 2) = false := by rw [beq_eq_false_iff_ne]; omega
  have t3 : ((cv : Int) == 3) = false := by rw [beq_eq_false_iff_ne]; omega
  clear hcv h h1 h2 h3
  go_enter Try.func35, Try.ntmps35
  go_wp2_with fail
  refine hN.out.mono ?_
  rintro e w1 ⟨rfl, hL⟩
  have HL := Lib.hid hL
  have hbx := hL.box hlt
  obtain ⟨⟨c0, c1, c2⟩, g0, g1, g2⟩ := cells3 hL.1.1
  obtain ⟨⟨d0, d1, d2, d3⟩, f0, f1, f2, f3⟩ := cells4 hbx
  clear hL hN hbx
  go_wp2_with fail
  refine bodyPost_ret (v := .agg #[.int .i64 0, .int .i64 0, .string ⟨#[]⟩, .slice none 0 0]) (by simp [results, Try.results35, go_sem, d0, d1, d2, d3]) rfl ?_
  exact ⟨0, 0, ⟨#[]⟩, none, 0, 0, i + 1, rfl, by omega, Left.ret hlt HL.out.bad _ _ _ _ rfl⟩

set_option maxRecDepth 100000 in
set_option maxHeartbeats 2000000 in
theorem rvalue_end (w : World) (rb : Nat) (pa : Option Addr) (raw : List UInt8) (cap : Nat) (q : Int) (deep : Nat) (h : RR w rb pa raw cap raw.length false) :
    Calls Try.prog 35 #[.pointer (some ⟨rb, 0, none⟩), .int .i64 q] w (RVal deep none w rb pa raw cap) := by
  have hlt := h.lt
  have hN := Lib.hid (next_end _ rb pa raw cap false (h.alloc (.cells #[.int .i64 0, .int .i64 0, .string ⟨#[]⟩, .slice none 0 0] 24)))
  clear h
  go_enter Try.func35, Try.ntmps35
  go_wp2_with fail
  refine hN.out.mono ?_
  rintro e w1 ⟨rfl, hL⟩
  have HL := Lib.hid hL
  have hbx := hL.box hlt
  obtain ⟨⟨c0, c1, c2⟩, g0, g1, g2⟩ := cells3 hL.1.1
  obtain ⟨⟨d0, d1, d2, d3⟩, f0, f1, f2, f3⟩ := cells4 hbx
  clear hL hN hbx
  go_wp2_with fail
  refine bodyPost_ret (v := .agg #[.int .i64 0, .int .i64 0, .string ⟨#[]⟩, .slice none 0 0]) (by simp [results, Try.results35, go_sem, d0, d1, d2, d3]) rfl ?_
  exact ⟨0, 0, ⟨#[]⟩, none, 0, 0, raw.length, rfl, Nat.le_refl _, Left.ret hlt HL.out.bad _ _ _ _ rfl⟩

theorem sig_cases (u : Nat) : (u % 2 = 1 ∧ M.sig u = -((u : Int) / 2) - 1) ∨ (u % 2 = 0 ∧ M.sig u = (u : Int) / 2) := by
  unfold M.sig
  rcases (show u % 2 = 1 ∨ u % 2 = 0 from by omega) with h | h
  · left; exact ⟨h, by rw [if_pos (by omega)]⟩
  · right; exact ⟨h, by rw [if_neg (by omega)]⟩

set_option maxRecDepth 100000 in
set_option maxHeartbeats 2000000 in
theorem rvalue_int (w : World) (rb : Nat) (pa : Option Addr) (raw : List UInt8) (cap i : Nat) (q : Int) (deep : Nat) (h : RR w rb pa raw cap i false) (hi : i < raw.length) (h1 : (raw[i]).toNat = 1) (r : Option (Nat × List UInt8)) (hr : M.rdNum 0 0 (raw.drop (i + 1)) = r) :
    Calls Try.prog 35 #[.pointer (some ⟨rb, 0, none⟩), .int .i64 q] w (RVal deep (r.map fun p => ((1, M.sig p.1, ⟨#[]⟩, []), p.2)) w rb pa raw cap) := by
  have hlt := h.lt
  have hN := next_ok _ rb pa raw cap i false (h.alloc (.cells #[.int .i64 0, .int .i64 0, .string ⟨#[]⟩, .slice none 0 0] 24)) hi
  rw [h1] at hN
  have HN := Lib.hid hN
  have HR := Lib.hid hr
  clear h h1 hN hr
  go_enter Try.func35, Try.ntmps35
  go_wp2_with fail
  refine HN.out.mono ?_
  rintro e w1 ⟨rfl, hL⟩
  have HL := Lib.hid hL
  clear hL HN
  go_wp2_with fail
  refine (number_any w1 rb pa raw cap (i + 1) (by omega) HL.out.1 r HR.out).mono ?_
  rintro e w2 hres
  cases r with
  | none =>
    obtain ⟨u, at', rfl, hu, hat, hL2⟩ := hres
    have HL2 := Lib.hid (HL.out.trans hL2)
    have hbx := HL2.out.box hlt
    obtain ⟨⟨d0, d1, d2, d3⟩, f0, f1, f2, f3⟩ := cells4 hbx
    clear hL2 HL hbx HR
    rcases (show (u : Int) % 2 = 1 ∨ (u : Int) % 2 = 0 from by omega) with hp | hp
    all_goals
      go_wp2_with fail
      refine bodyPost_ret (v := .agg #[.int .i64 1, .int .i64 _, .string ⟨#[]⟩, .slice none 0 0]) (by simp [results, Try.results35, go_sem, d0, d1, d2, d3]; rfl) rfl ?_
      exact ⟨1, _, ⟨#[]⟩, none, 0, 0, at', rfl, hat, Left.ret hlt HL2.out _ _ _ _ rfl⟩
  | some p =>
    obtain ⟨u, rest⟩ := p
    obtain ⟨rfl, hu, at', hat, hrest, hL2⟩ := hres
    have HL2 := Lib.hid (HL.out.trans hL2)
    have hbx := HL2.out.box hlt
    obtain ⟨⟨d0, d1, d2, d3⟩, f0, f1, f2, f3⟩ := cells4 hbx
    have HREST := Lib.hid hrest
    clear hL2 HL hbx HR hrest
    have hbd := M.sig_bd u (by omega) (by omega)
    rcases sig_cases u with ⟨hp, hs⟩ | ⟨hp, hs⟩
    all_goals
      have hp' : (u : Int) % 2 = (u % 2 : Nat) := by omega
      rw [hp] at hp'
      have HS := Lib.hid hs
      clear hs hp
      go_wp2_with fail
      refine bodyPost_ret (v := .agg #[.int .i64 1, .int .i64 (M.sig u), .string ⟨#[]⟩, .slice none 0 0]) (by rw [HS.out]; simp [results, Try.results35, go_sem, d0, d1, d2, d3]) rfl ?_
      refine ⟨_, at', rfl, ⟨by decide, hbd, by decide, Nat.zero_le _, none, 0, rfl, .inl rfl⟩, hat, HREST.out, Left.ret hlt HL2.out _ _ _ _ rfl⟩

/-- 'b[i:i+u]', as an equation. -/
theorem slice_run_any (a : Option Addr) (n cap i u : Nat) (_ : i ≤ cap) (h2 : i + u ≤ cap) :
    ∃ a' : Option Addr, (∀ W : World, (Instr.slice 27 (.slice a n cap) (some (.int .i64 (i : Int))) (some (.int .i64 ((i : Int) + (u : Int)))) none).run Try.prog W = .ok (.slice a' u (cap - i)) W) ∧ ∀ ad, a = some ad → i < cap → a' = some (ad.add i) := by
  refine ⟨if cap = i then a else a.map (·.add i), fun W => ?_, fun ad ha hi => by rw [if_neg (by omega), ha]; rfl⟩
  rw [run_slice_lh (P := Try.prog) (w := W) 27 a n cap (by kernel_rfl) .i64 .i64 (i : Int) ((i : Int) + (u : Int)) (by omega) (by omega) (by omega)]
  have hs : (sizeOf (Try.prog.elem 27)).run Try.prog W = .ok 1 W := by kernel_rfl
  have e1 : ((i : Int) + (u : Int)).toNat = i + u := by omega
  rw [hs, e1]
  simp only [Result.andThen, sliced, Int.toNat_natCast, Nat.mul_one, Nat.add_sub_cancel_left]

set_option maxRecDepth 100000 in
set_option maxHeartbeats 2000000 in
theorem rvalue_text (w : World) (rb : Nat) (pa : Option Addr) (raw : List UInt8) (cap i : Nat) (q : Int) (deep : Nat) (h : RR w rb pa raw cap i false) (hi : i < raw.length) (h1 : (raw[i]).toNat = 2) (r : Option (Nat × List UInt8)) (hr : M.rdNum 0 0 (raw.drop (i + 1)) = r) (R : Option (M.T (deep + 1) × List UInt8)) (hR : (r.bind fun p => if p.1 ≤ p.2.length then some ((2, 0, ⟨(p.2.take p.1).toArray⟩, []), p.2.drop p.1) else none) = R) :
    Calls Try.prog 35 #[.pointer (some ⟨rb, 0, none⟩), .int .i64 q] w (RVal deep R w rb pa raw cap) := by
  have HRR := Lib.hid hR
  clear hR
  have hlt := h.lt
  have hN := next_ok _ rb pa raw cap i false (h.alloc (.cells #[.int .i64 0, .int .i64 0, .string ⟨#[]⟩, .slice none 0 0] 24)) hi
  rw [h1] at hN
  have hlr := h.2.2.1
  have HN := Lib.hid hN
  have HR := Lib.hid hr
  clear h h1 hN hr
  go_enter Try.func35, Try.ntmps35
  go_wp2_with fail
  refine HN.out.mono ?_
  rintro e w1 ⟨rfl, hL⟩
  have HL := Lib.hid hL
  clear hL HN
  go_wp2_with fail
  refine (number_any w1 rb pa raw cap (i + 1) (by omega) HL.out.1 r HR.out).mono ?_
  rintro e w2 hres
  cases r with
  | none =>
    obtain rfl : R = none := by rw [← HRR.out]; rfl
    obtain ⟨u, at', rfl, hu, hat, hL2⟩ := hres
    have HL2 := Lib.hid (HL.out.trans hL2)
    obtain ⟨⟨c0, c1, c2⟩, g0, g1, g2⟩ := cells3 HL2.out.1.1
    clear hL2 HL HR
    go_wp2_with fail
    have x0 := cell_regrown c0; have x1 := cell_regrown c1; have x2 := cell_regrown c2
    refine wp_region_qb (by kernel_rfl) ?_
    repeat (go_big_quiet_step (fail))
    refine wpQuiet_nil ?_
    intro W2 hb2
    have HL3 := Lib.hid (HL2.out.trans ⟨HL2.out.1.kept hb2, below_grownBy hb2⟩)
    have hbx := HL3.out.box hlt
    clear x0 x1 x2 c0 c1 c2 g0 g1 g2
    obtain ⟨⟨c0, c1, c2⟩, g0, g1, g2⟩ := cells3 HL3.out.1.1
    obtain ⟨⟨d0, d1, d2, d3⟩, f0, f1, f2, f3⟩ := cells4 hbx
    clear hbx
    go_wp2_with fail
    refine bodyPost_ret (v := .agg #[.int .i64 0, .int .i64 0, .string ⟨#[]⟩, .slice none 0 0]) (by simp [results, Try.results35, go_sem, d0, d1, d2, d3]) rfl ?_
    exact ⟨0, 0, ⟨#[]⟩, none, 0, 0, at', rfl, hat, Left.ret hlt HL3.out.bad _ _ _ _ rfl⟩
  | some p =>
    obtain ⟨u, rest⟩ := p
    obtain ⟨rfl, hu, at', hat, hrest, hL2⟩ := hres
    have HL2 := Lib.hid (HL.out.trans hL2)
    obtain ⟨⟨c0, c1, c2⟩, g0, g1, g2⟩ := cells3 HL2.out.1.1
    have hrl : rest.length = raw.length - at' := by rw [hrest, List.length_drop]
    have HREST := Lib.hid hrest
    have HRL := Lib.hid hrl
    clear hL2 HL HR hrest
    obtain ⟨m, hm⟩ : ∃ m, m = raw.length - at' := ⟨_, rfl⟩
    have hml : m ≤ 1000000 := by omega
    have hsub : (raw.length : Int) - (at' : Int) = (m : Int) := by omega
    have hw1 : IntKind.i64.wrap (m : Int) = (m : Int) := wrap_i64 _ (by omega) (by omega)
    have hw2 : IntKind.u64.wrap (m : Int) = (m : Int) := wrap_u64 _ (by omega) (by omega)
    by_cases hle : u ≤ m
    · have t1 : decide ((m : Int) < (u : Int)) = false := by simp; omega
      obtain rfl : R = some ((2, 0, ⟨((raw.drop at').take u).toArray⟩, []), rest.drop u) := by
        rw [← HRR.out, ← HREST.out]; simp only [Option.bind_some]; rw [if_pos (by omega)]; try rfl
      go_wp2_with fail
      have x0 := cell_regrown c0; have x1 := cell_regrown c1; have x2 := cell_regrown c2
      refine wp_region_qb (by kernel_rfl) ?_
      repeat (go_big_quiet_step (fail))
      refine wpQuiet_nil ?_
      intro W2 hb2
      have HL3 := Lib.hid (HL2.out.trans ⟨HL2.out.1.kept hb2, below_grownBy hb2⟩)
      have hbx := HL3.out.box hlt
      clear x0 x1 x2 c0 c1 c2 g0 g1 g2
      obtain ⟨⟨c0, c1, c2⟩, g0, g1, g2⟩ := cells3 HL3.out.1.1
      obtain ⟨⟨d0, d1, d2, d3⟩, f0, f1, f2, f3⟩ := cells4 hbx
      clear hbx
      go_wp2_with fail
      have e1 : ((at' + u : Nat) : Int) = (at' : Int) + (u : Int) := by omega
      have hset := set_at HL3.out.1 (at' + u)
      have hLS : Left (w.alloc (.cells #[.int .i64 0, .int .i64 0, .string ⟨#[]⟩, .slice none 0 0] 24)) (W2.setCell ⟨rb, 1, none⟩ (.int .i64 (at' + u : Nat))) rb pa raw cap (at' + u) false := ⟨hset, grownBy_trans HL3.out.2 (grownBy_set _ _ _ _)⟩
      rw [e1] at hLS
      clear hset e1 c0 c1 c2 g0 g1 g2 d0 d1 d2 d3 f0 f1 f2 f3
      generalize W2.setCell ⟨rb, 1, none⟩ (.int .i64 ((at' : Int) + (u : Int))) = W3 at *
      have hbx := hLS.box hlt
      obtain ⟨⟨c0, c1, c2⟩, g0, g1, g2⟩ := cells3 hLS.1.1
      have c1' : W3.cell? ⟨rb, 1, none⟩ = some (.int .i64 ((at' : Int) + (u : Int))) := c1
      obtain ⟨⟨d0, d1, d2, d3⟩, f0, f1, f2, f3⟩ := cells4 hbx
      have hcap := hLS.1.2.1
      have hcs := hLS.1.2.2.2
      have HLS := Lib.hid hLS
      have HCS := Lib.hid hcs
      clear hbx hLS hcs c1 hm hrl t1 hsub hw1 hw2
      have hsub : (at' : Int) + (u : Int) - (u : Int) = (at' : Int) := by omega
      obtain ⟨a2, hsl, ha2⟩ := slice_run_any pa raw.length cap at' u (by omega) (by omega)
      have hbyt : BytesAt W3 a2 ((raw.drop at').take u) := fun j hj => by
        rw [List.length_take, List.length_drop] at hj
        obtain ⟨ad, ha, _, hc⟩ := HCS.out (at' + j) (by omega)
        exact ⟨_, ha2 ad ha (by omega), by rw [add_add]; simpa using hc⟩
      have cv1 := bytes_str (n := u) (cap - at') hbyt (by rw [List.length_take, List.length_drop]; omega) (s := ⟨((raw.drop at').take u).toArray⟩) rfl
      have cv2 : (convert 27 9 (.slice a2 u (cap - at'))).run Try.prog W3.drew = .ok (.string ⟨((raw.drop at').take u).toArray⟩) W3.drew := bytes_str (n := u) (w := W3.drew) (cap - at') hbyt (by rw [List.length_take, List.length_drop]; omega) rfl
      have hz4 : IntKind.i64.wrap ((at' : Int) + (u : Int) - (u : Int)) = (at' : Int) := by rw [hsub]; exact wrap_i64 _ (by omega) (by omega)
      have hz6 : IntKind.i64.wrap (u : Int) = (u : Int) := wrap_i64 _ (by omega) (by omega)
      have hssz : (⟨((raw.drop at').take u).toArray⟩ : ByteArray).size ≤ 140737488351232 := by
        show ((raw.drop at').take u).toArray.size ≤ _
        simp; omega
      have HRS := Lib.hid hssz
      clear hbyt ha2 hssz
      generalize (⟨((raw.drop at').take u).toArray⟩ : ByteArray) = s at *
      go_region
      go_wp2_with fail
      refine bodyPost_ret (v := .agg #[.int .i64 2, .int .i64 0, .string s, .slice none 0 0]) (by simp [results, Try.results35, go_sem, d0, d1, d2, d3]) rfl ?_
      refine ⟨_, at' + u, rfl, ⟨by decide, by decide, HRS.out, Nat.zero_le _, none, 0, rfl, .inl rfl⟩, by omega, by rw [HREST.out, List.drop_drop], (Left.ret hlt HLS.out _ _ _ _ rfl).drew⟩
    · have t1 : decide ((m : Int) < (u : Int)) = true := by simp; omega
      have t2 : decide (m < u) = true := by simp; omega
      obtain rfl : R = none := by
        rw [← HRR.out]; simp only [Option.bind_some]; rw [if_neg (by omega)]; try rfl
      clear hm hrl
      go_wp2_with fail
      have x0 := cell_regrown c0; have x1 := cell_regrown c1; have x2 := cell_regrown c2
      refine wp_region_qb (by kernel_rfl) ?_
      repeat (go_big_quiet_step (fail))
      refine wpQuiet_nil ?_
      intro W2 hb2
      have HL3 := Lib.hid (HL2.out.trans ⟨HL2.out.1.kept hb2, below_grownBy hb2⟩)
      have hbx := HL3.out.box hlt
      clear x0 x1 x2 c0 c1 c2 g0 g1 g2
      obtain ⟨⟨c0, c1, c2⟩, g0, g1, g2⟩ := cells3 HL3.out.1.1
      obtain ⟨⟨d0, d1, d2, d3⟩, f0, f1, f2, f3⟩ := cells4 hbx
      clear hbx
      go_wp2_with fail
      refine bodyPost_ret (v := .agg #[.int .i64 0, .int .i64 0, .string ⟨#[]⟩, .slice none 0 0]) (by simp [results, Try.results35, go_sem, d0, d1, d2, d3]) rfl ?_
      exact ⟨0, 0, ⟨#[]⟩, none, 0, 0, at', rfl, hat, Left.ret hlt HL3.out.bad _ _ _ _ rfl⟩

end Go.Proofs.Ytmhchpdogjbpmaa
