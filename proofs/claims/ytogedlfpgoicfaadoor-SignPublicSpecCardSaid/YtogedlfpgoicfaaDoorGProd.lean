/- Contracts of group's product, scalars, digits and power. -/
import Derived.Test.YtogedlfpgoicfaaDoorGRem
import Derived.Test.YtogedlfpgoicfaaDoorGMath
import Derived.RangeFuncNested
import Derived.RangeFuncBound
import Derived.RangeFuncCalls
import Derived.RangeFuncLeaves
import Derived.RangeFuncBox
import Derived.RangeFuncFrom
import Derived.Shelf.Abstract
import Derived.Shelf.RegionOpen
import Derived.OwnWalkIn
import Derived.TacticsInMore
import Derived.LoopNIn
import Derived.LoopIn
namespace Go.Proofs.YtogedlfpgoicfaaDoor
open Go.RowKit Go.Shelf

attribute [local go_sem] Oper.semAt_some

theorem product_any (a b m z : Nat) (w : World) (hm1 : 1152921504606846976 ≤ m) (hm2 : m < 4611686018427387904) (ha : a < m) (hb : b < m) (HZ : Hid (z = a * b % m)) :
    Calls Tryd.prog 79 #[.int .i64 a, .int .i64 b, .int .i64 m] w fun e w' => e = .returned (.int .i64 z) ∧ ∃ n, w' = w.drewN n := by
  obtain ⟨t, ht⟩ : ∃ t, t = a * b := ⟨_, rfl⟩
  have htl : t < m * m := by
    rw [ht]
    exact Nat.mul_lt_mul'' ha hb
  have htl2 : t < m * 4611686018427387904 := Nat.lt_of_lt_of_le htl (Nat.mul_le_mul_left m (by omega))
  obtain ⟨hi, hhi⟩ : ∃ hi, hi = t / 18446744073709551616 := ⟨_, rfl⟩
  obtain ⟨lo, hlo⟩ : ∃ lo, lo = t % 18446744073709551616 := ⟨_, rfl⟩
  have hzl : z < m := by rw [HZ.out]; exact Nat.mod_lt _ (by omega)
  have HM : Hid (Calls Tryd.prog 104 #[.int .u64 a, .int .u64 b] w fun e w' => e = .returned (.tuple #[.int .u64 hi, .int .u64 lo]) ∧ w = w') := Lib.hid (by
    refine (Tryd.bits_Mul64 a b (by omega) (by omega) w).mono ?_
    rintro e w' ⟨rfl, hw⟩
    rw [hhi, hlo, ht]
    exact ⟨rfl, hw.symm⟩)
  have HR : Hid (Calls Tryd.prog 105 #[.int .u64 hi, .int .u64 lo, .int .u64 m] w fun e w' => e = .returned (.int .u64 z) ∧ ∃ n, w' = w.drewN n) :=
    Lib.hid (rem_any hi lo m z w hm1 hm2 (by omega) (by omega) (Lib.hid (by rw [HZ.out, ← ht, hhi, hlo]; congr 1; omega)))
  have hal : a < 4611686018427387904 := by omega
  have hbl : b < 4611686018427387904 := by omega
  have hzl2 : z < 4611686018427387904 := by omega
  clear htl htl2 hhi hlo ht HZ hzl hm1 ha hb
  go_enter Tryd.func79, Tryd.ntmps79
  go_wp2_with (first | (go_at_call 104; (with_reducible refine HM.out.mono ?_); rintro e w' ⟨rfl, rfl⟩) | (go_at_call 105; (with_reducible refine HR.out.mono ?_); rintro e w' ⟨rfl, n, rfl⟩))
  go_ret
  exact ⟨rfl, n, rfl⟩

namespace G
/-- The bits of a number, the lowest first. -/
def bts (m k : Nat) : List Bool := (List.range m).map fun i => k / 2 ^ i % 2 == 1
theorem bts_succ (m k : Nat) : bts (m + 1) k = bts m k ++ [k / 2 ^ m % 2 == 1] := by
  simp [bts, List.range_succ]
/-- The product so far, and the square. -/
def pst (p a : Nat) (l : List Bool) : Nat × Nat := l.foldl (fun s b => (if b then s.1 * s.2 % p else s.1, s.2 * s.2 % p)) (1, a)
theorem pst_snoc (p a : Nat) (l : List Bool) (b : Bool) : pst p a (l ++ [b]) = (if b then (pst p a l).1 * (pst p a l).2 % p else (pst p a l).1, (pst p a l).2 * (pst p a l).2 % p) := by
  simp [pst, List.foldl_append]
theorem foldl_lt (p : Nat) (h1 : 1 < p) : ∀ (l : List Bool) (s : Nat × Nat), s.1 < p → s.2 < p → (l.foldl (fun s b => (if b then s.1 * s.2 % p else s.1, s.2 * s.2 % p)) s).1 < p ∧ (l.foldl (fun s b => (if b then s.1 * s.2 % p else s.1, s.2 * s.2 % p)) s).2 < p
  | [], s, h, k => ⟨h, k⟩
  | b :: l, s, h, k => by
    refine foldl_lt p h1 l _ ?_ (Nat.mod_lt _ (by omega))
    show (if b = true then s.1 * s.2 % p else s.1) < p
    split
    · exact Nat.mod_lt _ (by omega)
    · exact h
theorem pst_lt (p a : Nat) (h1 : 1 < p) (ha : a < p) (l : List Bool) : (pst p a l).1 < p ∧ (pst p a l).2 < p := foldl_lt p h1 l (1, a) h1 ha
theorem pst_bts (p a k : Nat) (h1 : 1 < p) (ha : a < p) : ∀ m, pst p a (bts m k) = (a ^ (k % 2 ^ m) % p, a ^ (2 ^ m) % p)
  | 0 => by simp [pst, bts, Nat.mod_one, Nat.mod_eq_of_lt h1, Nat.mod_eq_of_lt ha]
  | m + 1 => by
    rw [bts_succ, pst_snoc, pst_bts p a k h1 ha m]
    have e : k % 2 ^ (m + 1) = k % 2 ^ m + 2 ^ m * (k / 2 ^ m % 2) := by rw [Nat.pow_succ, Nat.mod_mul]
    have e2 : a ^ 2 ^ m % p * (a ^ 2 ^ m % p) % p = a ^ (2 ^ (m + 1)) % p := by
      rw [← Nat.mul_mod, ← Nat.pow_add]; congr 2; rw [Nat.pow_succ]; omega
    refine Prod.ext ?_ e2
    rcases Nat.mod_two_eq_zero_or_one (k / 2 ^ m) with hb | hb
    · simp [hb, e]
    · have : (k / 2 ^ m % 2 == 1) = true := by rw [hb]; rfl
      simp only [this, if_true]
      rw [e, hb, ← Nat.mul_mod, ← Nat.pow_add, Nat.mul_one]
theorem pst_all (p a k m : Nat) (h1 : 1 < p) (ha : a < p) (hk : k < 2 ^ m) : (pst p a (bts m k)).1 = a ^ k % p := by
  rw [pst_bts p a k h1 ha, Nat.mod_eq_of_lt hk]
/-- How many bits a number has. -/
def nb (k : Nat) : Nat := if k = 0 then 0 else Nat.log2 k + 1
theorem nb_lt (k : Nat) : k < 2 ^ nb k := by
  unfold nb
  split
  · simp [*]
  · exact Nat.lt_log2_self
theorem nb_le {k i : Nat} (h : i < nb k) : 0 < k / 2 ^ i := by
  unfold nb at h
  split at h
  · omega
  · rename_i h0
    refine Nat.div_pos (Nat.le_trans (Nat.pow_le_pow_right (by decide) (show i ≤ Nat.log2 k by omega)) (Nat.log2_self_le h0)) (Nat.two_pow_pos i)
theorem nb_done (k : Nat) : k / 2 ^ nb k = 0 := Nat.div_eq_of_lt (nb_lt k)
end G

theorem G.Boxed.drewN {W : World} {B : Nat} {t : TypeId} {v : Value} (h : Boxed W B t v) (n : Nat) : Boxed (W.drewN n) B t v := h
theorem G.KeepsOthers.drewN (W : World) (n : Nat) : KeepsOthers W (W.drewN n) := ⟨Nat.le_refl _, fun _ _ h _ => h⟩
theorem G.Below.drewN {B : Nat} {a w : World} (h : Below B a w) (n : Nat) : Below B a (w.drewN n) := ⟨h.os, h.tape, h.output, h.size, h.block⟩

set_option maxRecDepth 100000 in
set_option maxHeartbeats 2000000 in
/-- The closure of digits. -/
theorem digits1_in (n : Nat) (hn : 1 ≤ n) (l B k : Nat) (hk : k < 4611686018427387904) (J Jx : List Bool → World → Prop)
    (hY : ∀ pre x W, J pre W → pre.length < G.nb k → YieldAt Fence.wide (n - 1) Tryd.prog l #[.bool x] W fun e W' =>
      (e = .returned (.bool true) ∧ J (pre ++ [x]) W' ∧ True) ∨ (e = .returned (.bool false) ∧ Jx (pre ++ [x]) W'))
    (W : World) (hs : W.cell? ⟨B, 0, none⟩ = some (.int .i64 k)) (h0 : J [] W) :
    CallsIn Fence.wide n Tryd.prog 115 #[.func (.yield l) #[] #[], .pointer (some ⟨B, 0, none⟩)] W fun e W' => (∃ v, e = .returned v) ∧
      ((∃ ys, ys = G.bts (G.nb k) k ∧ J ys W') ∨ (∃ pre, True ∧ Jx pre W')) := by
  refine callsIn_of_wp Tryd.func115 rfl (by trivial) ?_ rfl
  simp only [Tryd.ntmps115, List.size_toArray, List.length_cons, List.length_nil, Nat.reduceAdd, Nat.reduceSub, Array.replicate_succ, Array.replicate_zero, List.push_toArray, List.append_toArray, List.nil_append, List.cons_append]
  gi_wp2
  gi_loopw [3] (fun i wr => ∃ j : Nat, j ≤ G.nb k ∧ i = .int .i64 ((k / 2 ^ j : Nat) : Int) ∧ J (G.bts j k) wr)
    (fun i _ => (intOf i).toNat)
  case atStart => exact ⟨0, Nat.zero_le _, by simp, h0⟩
  case round =>
    obtain ⟨j, hj, rfl, hJ⟩ := hrel
    by_cases hlt : j < G.nb k
    · have hr0 := G.nb_le hlt
      have hr1 : k / 2 ^ j ≤ k := Nat.div_le_self _ _
      have hr2 : k / 2 ^ (j + 1) = k / 2 ^ j / 2 := by rw [Nat.pow_succ, Nat.div_div_eq_div_mul]
      have hbs := G.bts_succ j k
      obtain ⟨r, hr⟩ : ∃ r, r = k / 2 ^ j := ⟨_, rfl⟩
      rw [← hr] at hr0 hr1 hr2 hbs ⊢
      have hY1 := hY _ (r % 2 == 1) wr hJ (by simp [G.bts]; exact hlt)
      obtain ⟨fn, tmps, assign, body, hy, hR⟩ := hY1
      have hrl : r < 4611686018427387904 := by omega
      have HR := Lib.hid hR; have HB := Lib.hid hbs; have HR2 := Lib.hid hr2; have HRR := Lib.hid hr
      have hz : ((r : Int) % 2 == 1) = (r % 2 == 1) := by
        rw [Bool.eq_iff_iff]; simp; omega
      obtain ⟨b, hb⟩ : ∃ b, (r % 2 == 1) = b := ⟨_, rfl⟩
      rw [hb] at hz hy
      have HBB := Lib.hid hb
      clear hR hbs hr2 hr hr1 hb
      gi_wp2
      clear hy hz
      refine HR.out.mono ?_
      rintro e3 W3 (⟨rfl, hJ3, _⟩ | ⟨rfl, hJx3⟩)
      · have HJ3 := Lib.hid hJ3
        clear hJ3
        gi_wp2
        go_roundw
        case rel => exact ⟨j + 1, by omega, by rw [HR2.out]; go_num, by rw [HB.out]; exact HJ3.out⟩
        case measure => simp [intOf]; omega
      · gi_wp2
        refine bodyPost_ret (results_none rfl _ _ _) rfl ?_
        exact ⟨⟨_, rfl⟩, .inr ⟨_, trivial, hJx3⟩⟩
    · have hjm : j = G.nb k := by omega
      have hz := G.nb_done k
      rw [hjm, hz]
      rw [hjm] at hJ
      clear hz
      gi_wp2
      go_end0
      exact ⟨⟨_, rfl⟩, .inl ⟨_, rfl, hJ⟩⟩

set_option maxHeartbeats 1000000 in
theorem digits_any (k : Int) (w : World) :
    Calls Tryd.prog 110 #[.int .i64 k] w fun e w' => e = .returned (.func (.func 115) #[] #[.pointer (some ⟨w.heap.size, 0, none⟩)]) ∧ w' = w.alloc (.cells #[.int .i64 k] 3) := by
  go_enter Tryd.func110, Tryd.ntmps110
  go_wp2
  go_ret
  exact ⟨rfl, rfl⟩

/-- What digits hands back, as an iterator over the bits. -/
theorem digits_stops (n : Nat) (hn : 1 ≤ n) (B k : Nat) (hk : k < 4611686018427387904) (w : World) (hB : B < w.heap.size) (hs : w.cell? ⟨B, 0, none⟩ = some (.int .i64 k)) :
    SeqStopsK Fence.wide n Tryd.prog 115 #[.pointer (some ⟨B, 0, none⟩)] (fun x : Bool => #[.bool x]) (fun _ _ => True) (fun ys => ys = G.bts (G.nb k) k) (fun _ => True) (G.nb k) w := fun l J Jx W hW _ _ hY h0 =>
  digits1_in n hn l B k hk J Jx hY W ((hW.cell (p := ⟨B, 0, none⟩) hB).trans hs) h0

set_option maxRecDepth 100000 in
set_option maxHeartbeats 4000000 in
theorem power_any (a k z : Nat) (w : World) (ha : a < 4611686018427377339) (hk : k < 4611686018427387904) (HZ : Hid (z = a ^ k % 4611686018427377339)) :
    Calls Tryd.prog 95 #[.int .i64 a, .int .i64 k] w fun e w' => e = .returned (.int .i64 z) ∧ Below w.heap.size w w' := by
  refine (callsIn_wide (n := 3)).1 ?_
  refine callsIn_of_wp_marks Tryd.func95 rfl (by trivial) ?_ rfl
  simp only [Tryd.ntmps95, List.size_toArray, List.length_cons, List.length_nil, Nat.reduceAdd, Nat.reduceSub, Array.replicate_succ, Array.replicate_zero, List.push_toArray, List.append_toArray, List.nil_append, List.cons_append]
  refine wpIn_wide.2 ?_
  go_wp2_with (go_at_call 110; (with_reducible refine (digits_any _ _).mono ?_); rintro e w' ⟨rfl, rfl⟩)
  have hwl : Hid (Boxed (((w.alloc (.cells #[.int .i64 a] 3)).alloc (.cells #[.int .i64 1] 3)).alloc (.cells #[.int .i64 k] 3)) w.heap.size 3 (.int .i64 a) ∧
      Boxed (((w.alloc (.cells #[.int .i64 a] 3)).alloc (.cells #[.int .i64 1] 3)).alloc (.cells #[.int .i64 k] 3)) (w.heap.size + 1) 3 (.int .i64 1) ∧
      Boxed (((w.alloc (.cells #[.int .i64 a] 3)).alloc (.cells #[.int .i64 1] 3)).alloc (.cells #[.int .i64 k] 3)) (w.heap.size + 1 + 1) 3 (.int .i64 k) ∧
      Below w.heap.size w (((w.alloc (.cells #[.int .i64 a] 3)).alloc (.cells #[.int .i64 1] 3)).alloc (.cells #[.int .i64 k] 3))) := Lib.hid (by
    have b1 := Boxed.new w 3 (.int .i64 a)
    have b2 := Boxed.new (w.alloc (.cells #[.int .i64 a] 3)) 3 (.int .i64 1)
    have b3 := Boxed.new ((w.alloc (.cells #[.int .i64 a] 3)).alloc (.cells #[.int .i64 1] 3)) 3 (.int .i64 k)
    rw [World.size_alloc] at b2 b3
    rw [World.size_alloc] at b3
    exact ⟨(b1.alloc _).alloc _, b2.alloc _, b3, (((Below.refl _ _).alloc (Nat.le_refl _) _).alloc (by simp) _).alloc (by simp; omega) _⟩)
  generalize ((w.alloc (.cells #[.int .i64 a] 3)).alloc (.cells #[.int .i64 1] 3)).alloc (.cells #[.int .i64 k] 3) = Wl at hwl ⊢
  have hst := G.pst_lt 4611686018427377339 a (by decide) ha
  have HST := Lib.hid hst
  clear hst
  refine (wpIn_wide (n := 3)).1 (wpIn_rangeFunc_ownF rfl (by decide) (gf := 115) (lb := #[.pointer (some ⟨w.heap.size + 1 + 1, 0, none⟩)]) rfl trivial (enters_of Tryd.func115 (by kernel_rfl) rfl)
    (digits_stops 2 (by decide) (w.heap.size + 1 + 1) k hk Wl hwl.out.2.2.1.lt hwl.out.2.2.1.cell)
    (fun _ _ => trivial) (fun _ _ _ _ _ _ _ _ => trivial) (Below.refl _ _) (fun _ => rfl)
    (fun pre W => Boxed W w.heap.size 3 (.int .i64 ((G.pst 4611686018427377339 a pre).2 : Nat)) ∧ Boxed W (w.heap.size + 1) 3 (.int .i64 ((G.pst 4611686018427377339 a pre).1 : Nat)) ∧ Below w.heap.size w W)
    (fun _ _ _ => False)
    ?hI (fun _ _ _ _ _ hs _ _ => hs) ?h0
    (fun x => { tmps := #[.int .i64 a, .int .i64 k, .pointer (some ⟨w.heap.size, 0, none⟩), undef, .int .i64 0, .pointer (some ⟨w.heap.size + 1, 0, none⟩), .bool x, .int .i64 k, .func (.func 115) #[] #[.pointer (some ⟨w.heap.size + 1 + 1, 0, none⟩)], .bool x, undef, undef, undef, undef, undef, undef, undef, undef], defers := [] }) ?assign ?body ?done ?stop)
  case hI =>
    rintro s A B row ⟨h1, h2, h3⟩ hgb hr
    have hwb := hwl.out.2.2.2.size
    have hl1 := hwl.out.2.2.1.lt
    exact ⟨h1.kept hgb (fun e => by have := (hr _ e.symm).1; omega), h2.kept hgb (fun e => by have := (hr _ e.symm).1; omega), h3.grown hgb h3.size (fun k e => by have := (hr k e).1; omega)⟩
  case h0 => exact ⟨hwl.out.1, hwl.out.2.1, hwl.out.2.2.2⟩
  case assign =>
    intro l x W K hK
    gi_wp2
    exact hK
  case body =>
    rintro l pre x W ⟨h1, h2, h3⟩ hlen
    have hsn := G.pst_snoc 4611686018427377339 a pre x
    obtain ⟨hc, ha2⟩ := HST.out pre
    obtain ⟨c, hcv⟩ : ∃ c, c = (G.pst 4611686018427377339 a pre).1 := ⟨_, rfl⟩
    obtain ⟨d, hdv⟩ : ∃ d, d = (G.pst 4611686018427377339 a pre).2 := ⟨_, rfl⟩
    rw [← hcv] at hc h2
    rw [← hdv] at ha2 h1
    rw [← hcv, ← hdv] at hsn
    have HP1 : Hid (∀ W : World, Calls Tryd.prog 79 #[.int .i64 c, .int .i64 d, .int .i64 4611686018427377339] W fun e w' => e = .returned (.int .i64 (c * d % 4611686018427377339 : Nat)) ∧ ∃ n, w' = W.drewN n) := Lib.hid fun W =>
      product_any c d 4611686018427377339 _ W (by decide) (by decide) hc ha2 (Lib.hid rfl)
    have HP2 : Hid (∀ W : World, Calls Tryd.prog 79 #[.int .i64 d, .int .i64 d, .int .i64 4611686018427377339] W fun e w' => e = .returned (.int .i64 (d * d % 4611686018427377339 : Nat)) ∧ ∃ n, w' = W.drewN n) := Lib.hid fun W =>
      product_any d d 4611686018427377339 _ W (by decide) (by decide) ha2 ha2 (Lib.hid rfl)
    obtain ⟨z1, hz1⟩ : ∃ z, z = c * d % 4611686018427377339 := ⟨_, rfl⟩
    obtain ⟨z2, hz2⟩ : ∃ z, z = d * d % 4611686018427377339 := ⟨_, rfl⟩
    rw [← hz1] at HP1 hsn
    rw [← hz2] at HP2 hsn
    have hgl := h2.lt
    have HB := Lib.hid (And.intro h1 (And.intro h2 (And.intro h3 hsn)))
    have hc1 := h1.cell
    have hc2 := h2.cell
    have hf1 := h1.frozen
    have hf2 := h2.frozen
    clear h1 h2 h3 hsn hcv hdv hz1 hz2 hc ha2
    cases x
    · gi_wp2_with (refine ⟨trivial, ?_⟩; gi_at_call 79; (with_reducible refine (CallsIn.inRound l (callsIn_wide.2 (HP2.out _))).mono ?_); rintro e w' ⟨rfl, n, rfl⟩)
      obtain ⟨h1, h2, h3, hsn⟩ := HB.out
      refine ⟨(G.KeepsOthers.drewN W n).trans (KeepsOthers.setCell _ _ _), trivial, ?_⟩
      show Boxed _ _ _ _ ∧ Boxed _ _ _ _ ∧ _
      rw [hsn]
      exact ⟨(G.Boxed.drewN h1 n).set _, (G.Boxed.drewN h2 n).other (by omega) _, (G.Below.drewN h3 n).setCell (Nat.le_refl _) _⟩
    · gi_wp2_with (first
        | (refine ⟨trivial, ?_⟩; gi_at_call 79; (with_reducible refine (CallsIn.inRound l (callsIn_wide.2 (HP1.out _))).mono ?_); rintro e w' ⟨rfl, n, rfl⟩)
        | (refine ⟨trivial, ?_⟩; gi_at_call 79; (with_reducible refine (CallsIn.inRound l (callsIn_wide.2 (HP2.out _))).mono ?_); rintro e w' ⟨rfl, n2, rfl⟩))
      obtain ⟨h1, h2, h3, hsn⟩ := HB.out
      refine ⟨(((G.KeepsOthers.drewN W n).trans (KeepsOthers.setCell _ _ _)).trans (G.KeepsOthers.drewN _ n2)).trans (KeepsOthers.setCell _ _ _), trivial, ?_⟩
      show Boxed _ _ _ _ ∧ Boxed _ _ _ _ ∧ _
      rw [hsn]
      exact ⟨(G.Boxed.drewN ((G.Boxed.drewN h1 n).other (by omega) _) n2).set _, (G.Boxed.drewN ((G.Boxed.drewN h2 n).set _) n2).other (by omega) _, (G.Below.drewN ((G.Below.drewN h3 n).setCell (Nat.le_succ _) _) n2).setCell (Nat.le_refl _) _⟩
  case done =>
    rintro D ys W hD rfl ⟨h1, h2, h3⟩ hKd
    rw [G.pst_all 4611686018427377339 a k _ (by decide) ha (G.nb_lt k), ← HZ.out] at h2
    have HB := Lib.hid (And.intro h1 (And.intro h3 hKd))
    have hc2 := h2.cell
    clear h1 h3 hKd
    go_wp2
    obtain ⟨h1, h3, hKd⟩ := HB.out
    refine ⟨by simp, .inl ⟨_, _, rfl, run_takeDeferred hKd, ?_⟩⟩
    refine ⟨_, by simp [results, Tryd.results95, go_sem], rfl, ?_⟩
    exact ⟨h3.os, h3.tape, h3.output, by simp; exact h3.size, fun k hk => (World.putObj_heap_other (by have := hwl.out.2.2.2.size; omega)).trans (h3.block k hk)⟩
  case stop =>
    rintro D c pre W _ _ h _
    exact h.elim

end Go.Proofs.YtogedlfpgoicfaaDoor
