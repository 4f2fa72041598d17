/- What CodecLists leans on: the tree of a list, and two rows that grow side by side. -/
import Derived.Test.YtmhchpdogjbpmaaRoundTrip
import Derived.Test.YtmhchpdogjbpmaaRefEnc
namespace Go.Proofs.Ytmhchpdogjbpmaa
open Go.RowKit

namespace M
/-- The list of these. -/
def tl {d : Nat} (l : List (T d)) : T (d + 1) := (3, 0, ⟨#[]⟩, l)
theorem enc_tl {d : Nat} (l : List (T d)) : enc (d + 1) (tl l) = 3 :: (num l.length ++ (l.map (enc d)).flatten) := by
  simp [enc, tl]
theorem formed_tl {d : Nat} (l : List (T d)) : formed (d + 1) (tl l) = l.all (formed d) := by
  simp [formed, tl]
theorem depth_tl {d : Nat} (l : List (T d)) : depth (d + 1) (tl l) = lmax (l.map (depth d)) + 1 := by
  simp [depth, tl]
theorem check_tl_ne {d : Nat} {l : List (T d)} {x : T d} (hx : x ∈ l) (h : check d x ≠ 0) : check (d + 1) (tl l) ≠ 0 := by
  intro h0
  obtain ⟨h1, h2⟩ := check_zero h0
  rw [formed_tl, List.all_eq_true] at h1
  rw [depth_tl] at h2
  have : depth d x ≤ lmax (l.map (depth d)) := le_lmax (List.mem_map.2 ⟨x, hx, rfl⟩)
  exact h (check_of (h1 x hx) (by omega))
theorem check_tl_all {d : Nat} {l : List (T d)} (h : ∀ x ∈ l, check d x = 0) : check (d + 1) (tl l) = 0 ∨ check (d + 1) (tl l) = 2 := by
  have h1 : formed (d + 1) (tl l) = true := by
    rw [formed_tl, List.all_eq_true]
    exact fun x hx => (check_zero (h x hx)).1
  by_cases h2 : depth (d + 1) (tl l) ≤ 16
  · exact .inl (check_of h1 h2)
  · right; unfold check; rw [h1, if_pos rfl, if_pos (by omega)]
theorem enc_pos : ∀ (d : Nat) (t : T d), 0 < (enc d t).length
  | 0, t => t.elim
  | d + 1, (k, n, s, l) => by rw [enc]; split; · simp
                              split <;> simp
theorem flat_bd {α : Type} (f : α → List UInt8) (K : Nat) : ∀ (l : List α), (∀ x ∈ l, (f x).length ≤ K) → (l.map f).flatten.length ≤ l.length * K
  | [], _ => by simp
  | x :: l, h => by
    have h1 := h x (List.mem_cons_self ..)
    have h2 := flat_bd f K l (fun y hy => h y (List.mem_cons_of_mem _ hy))
    rw [List.map_cons, List.flatten_cons, List.length_append, List.length_cons, Nat.add_mul]; omega
theorem height_tl {d : Nat} {l : List (T d)} {m : Nat} (h : ∀ x ∈ l, height d x ≤ m) : height (d + 1) (tl l) ≤ 1 + m := by
  have : lmax (l.map (height d)) ≤ m := lmax_le (fun y hy => by
    obtain ⟨x, hx, rfl⟩ := List.mem_map.1 hy
    exact h x hx)
  simp only [height, tl]; omega
/-- As many zeros. -/
def zs (n : Nat) : List (T 1) := List.replicate n (tInt 0)
theorem zs_len (n : Nat) : (zs n).length = n := by simp [zs]
theorem zero_check : check 1 (tInt 0) = 0 := by decide +kernel
theorem zero_enc : enc 1 (tInt 0) = [1, 0] := by
  rw [enc_int, show (unsig 0).toNat = 0 from by decide, num_small 0 (by decide)]; rfl
theorem check_zs (n : Nat) : check 2 (tl (zs n)) = 0 := by
  have hd : ∀ m, lmax ((zs m).map (depth 1)) ≤ 0 := fun m => lmax_le (fun x hx => by
    obtain ⟨y, hy, rfl⟩ := List.mem_map.1 hx
    rw [List.eq_of_mem_replicate hy]; simp [depth, tInt])
  refine check_of ?_ ?_
  · rw [formed_tl, List.all_eq_true]
    intro x hx
    rw [List.eq_of_mem_replicate hx]
    exact (check_zero zero_check).1
  · rw [depth_tl]; have := hd n; omega
theorem enc_zs (n : Nat) : (enc 2 (tl (zs n))).length = 1 + (num n).length + 2 * n := by
  have h : ∀ m, ((zs m).map (enc 1)).flatten.length = 2 * m := by
    intro m
    induction m with
    | zero => rfl
    | succ m ih => rw [zs, List.replicate_succ, List.map_cons, List.flatten_cons, List.length_append, zero_enc, ← zs, ih]; simp; omega
  rw [enc_tl, List.length_cons, List.length_append, h, zs_len]; omega
end M

def zQ : Quad := (.int .i64 1, .int .i64 0, .string ⟨#[]⟩, .slice none 0 0)
theorem flat_zs (n : Nat) : flat (List.replicate (n + 1) zQ) = flat (List.replicate n zQ) ++ [.int .i64 1, .int .i64 0, .string ⟨#[]⟩, .slice none 0 0] := by
  rw [List.replicate_succ', zQ, flat_snoc]
theorem got_zs (P : Nat → Prop) (w : World) (n : Nat) : Got P w 1 (M.zs n) (List.replicate n zQ) := by
  refine ⟨by simp [M.zs], fun i x q hx hq => ?_⟩
  obtain rfl := List.eq_of_mem_replicate (List.mem_of_getElem? hx)
  obtain rfl := List.eq_of_mem_replicate (List.mem_of_getElem? hq)
  exact ⟨⟨by decide, by decide⟩, ⟨by decide, by decide⟩, by decide, Nat.zero_le _, none, 0, rfl, .inl rfl⟩

/-- Rows of two types lie apart. -/
theorem own_apart {w : World} {base s1 s2 n m : Nat} {e1 e2 : TypeId} {v u : Value} {xs ys : List Value} (h1 : w.ownsRow base e1 s1 v n xs) (h2 : w.ownsRow base e2 s2 u m ys) (hne : e1 ≠ e2) : v.ownBlock = none ∨ v.ownBlock ≠ u.ownBlock := by
  rcases h1.2 with ⟨rfl, _⟩ | ⟨g, cap, cur, rfl, _, hg, _⟩
  · exact .inl rfl
  · right
    rcases h2.2 with ⟨rfl, _⟩ | ⟨g', cap', cur', rfl, _, hg', _⟩
    · simp [Value.ownBlock]
    · intro h
      obtain rfl : g = g' := by simpa [Value.ownBlock] using h
      rw [hg] at hg'
      simp at hg'
      exact hne hg'.2
theorem own_other {w w' : World} {base size n : Nat} {e f : TypeId} {v : Value} {xs : List Value} (h : w.ownsRow base e size v n xs) (hk : Keeps base f w w') (hne : e ≠ f) : w'.ownsRow base e size v n xs := by
  refine ⟨h.1, ?_⟩
  rcases h.2 with h0 | ⟨g, cap, cur, hv, hb, hg, hr⟩
  · exact .inl h0
  · exact .inr ⟨g, cap, cur, hv, hb, hk.other hg hne, hr⟩
/-- A row of bytes, as bytes. -/
theorem owns_bytes {w : World} {base n : Nat} {v : Value} {bs : List UInt8} (h : w.ownsRow base 5 1 v n (bytes bs)) : ∃ a cap, v = .slice a n cap ∧ BytesAt w a bs := by
  have hl := h.1
  rcases h.2 with ⟨rfl, rfl⟩ | ⟨g, cap, cur, rfl, _⟩
  · refine ⟨none, 0, rfl, fun i hi => ?_⟩
    rw [bytes_len] at hl; omega
  · exact ⟨_, cap, rfl, owns_bytesAt h⟩

/-- 'append(l, x)', l a row of values of the call's own, x one value in a block of its own. -/
theorem wpl_push4 {ops : Array Oper} {rest : List Oper} {o : Oper} {a : Act} {Q : Exit → Act → World → Prop} {w : World} (hgd : o.guard = none) (s x : Operand)
    (ho : o.op = .call { callee := .builtin .append, args := #[s, x], argTypes := #[22, 22] })
    (base : Nat) (v : Value) (n : Nat) (xs : List Value) (hs : a.eval s = v) (hown : w.ownsRow base 24 4 v n xs) (B : Nat) (a0 a1 a2 a3 : Value)
    (hx : a.eval x = .slice (some ⟨B, 0, none⟩) 1 1) (hB : w.heap[B]? = some (.cells #[a0, a1, a2, a3] 24 (0, 0))) (h1 : a0.oneCell' = true ∧ a1.oneCell' = true ∧ a2.oneCell' = true ∧ a3.oneCell' = true) (hn : n ≤ 1099511627776) (hb : base ≤ w.heap.size)
    (h : ∀ v' w', w'.ownsRow base 24 4 v' (n + 1) (xs ++ [a0, a1, a2, a3]) → w.grownBy w' v.ownBlock → wpList Try.prog ops Q rest (a.put o.dst v') w') :
    wpList Try.prog ops Q (o :: rest) a w := by
  obtain ⟨i0, hi, hz0, hz1, hz2⟩ := info_parts Try.info24
  exact wpList_append_own w hgd s x 22 ho base 24 i0 _ 4 56 Try.underlying22 hi hz0 hz1 hz2 rfl (by decide) v n xs hs hown ⟨B, 0, none⟩ 1 1 [a0, a1, a2, a3] hx rfl (World.news_of_block (cs := #[a0, a1, a2, a3]) hB)
    (by intro u hu; simp at hu; obtain ⟨q0, q1, q2, q3⟩ := h1; rcases hu with rfl | rfl | rfl | rfl <;> assumption) (by unfold maxLen; omega) (by omega) hb (fun v' w' h1 h2 _ => h v' w' h1 h2)

/-- 'b[i:]', as an equation. -/
theorem slice_tail_any (a : Option Addr) (n cap i : Nat) (_ : i ≤ n) :
    ∃ a' c' : _, (∀ W : World, (Instr.slice 27 (.slice a n cap) (some (.int .i64 (i : Int))) none none).run Try.prog W = .ok (.slice a' (n - i) c') W) ∧ ∀ ad, a = some ad → i < cap → a' = some (ad.add i) := by
  refine ⟨if cap = i then a else a.map (·.add i), cap - i, fun W => ?_, fun ad ha hi => by rw [if_neg (by omega), ha]; rfl⟩
  rw [run_slice_l (P := Try.prog) (w := W) 27 a n cap (by kernel_rfl) .i64 (i : Int) (by omega) (by omega)]
  have hs : (sizeOf (Try.prog.elem 27)).run Try.prog W = .ok 1 W := by kernel_rfl
  rw [hs]
  simp only [Result.andThen, sliced, Int.toNat_natCast, Nat.mul_one]

theorem BytesAt.tail {w : World} {a a' : Option Addr} {n cap i : Nat} {bs cs : List UInt8} (h : BytesAt w a bs) (hbs : bs.length = n) (hc : n ≤ cap) (hcs : bs.drop i = cs) (ha : ∀ ad, a = some ad → i < cap → a' = some (ad.add i)) : BytesAt w a' cs := fun j hj => by
  subst hcs
  rw [List.length_drop] at hj
  obtain ⟨ad, had, hcell⟩ := h (i + j) (by omega)
  refine ⟨ad.add i, ha ad had (by omega), ?_⟩
  rw [add_add, hcell]; simp

end Go.Proofs.Ytmhchpdogjbpmaa
