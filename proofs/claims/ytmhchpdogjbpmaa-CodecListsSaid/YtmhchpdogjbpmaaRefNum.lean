/- Contracts of the reference's unsigned, numeral. -/
import Derived.Test.YtmhchpdogjbpmaaFew
namespace Go.Proofs.Ytmhchpdogjbpmaa
open Go.RowKit

/-- What a function hands back that makes a slice of bytes of its own, not empty. -/
def Made (bs : List UInt8) (w : World) (e : Ending) (w' : World) : Prop :=
  ∃ g cap, e = .returned (.slice (some ⟨g, 0, none⟩) bs.length cap) ∧ w'.ownsRow w.heap.size 5 1 (.slice (some ⟨g, 0, none⟩) bs.length cap) bs.length (bytes bs) ∧ Below w.heap.size w w'

/-- A row written out in a new block. -/
theorem ownsRow_new {w : World} {B base : Nat} {c : Int} (h : w.heap[B]? = some (.cells #[.int .u8 c] 5 (0, 0))) (hb : base ≤ B) (h0 : 0 ≤ c) (h1 : c < 256) : w.ownsRow base 5 1 (.slice (some ⟨B, 0, none⟩) 1 1) 1 (bytes [UInt8.ofNat c.toNat]) := by
  have e : bytes [UInt8.ofNat c.toNat] = [.int .u8 c] := by
    have := bytes_one [] c.toNat (by omega)
    simp only [List.nil_append] at this
    rw [← this, Int.toNat_of_nonneg h0]; rfl
  rw [e]
  exact ⟨rfl, .inr ⟨B, 1, _, rfl, hb, h, Nat.le_refl _, by decide, rfl, rfl⟩⟩

theorem owns_bytesAt {w : World} {base n : Nat} {g cap : Nat} {bs : List UInt8} (h : w.ownsRow base 5 1 (.slice (some ⟨g, 0, none⟩) n cap) n (bytes bs)) : BytesAt w (some ⟨g, 0, none⟩) bs := fun i hi =>
  ⟨_, rfl, h.cells (g := g) rfl i _ (by simp [bytes, hi])⟩

/-- The form of a row that is not empty. -/
theorem owns_form {w : World} {base n : Nat} {v : Value} {xs : List Value} (h : w.ownsRow base 5 1 v n xs) (hn : 0 < n) : ∃ g cap, v = .slice (some ⟨g, 0, none⟩) n cap ∧ n ≤ cap := by
  rcases h.2 with ⟨_, h0⟩ | ⟨g, cap, cur, hv, _, _, hc, _⟩
  · omega
  · exact ⟨g, cap, hv, hc⟩

/-- 'append(b, c...)', b a row of the call's own, c a slice of bytes somewhere. -/
theorem wpl_cat {ops : Array Oper} {rest : List Oper} {o : Oper} {a : Act} {Q : Exit → Act → World → Prop} {w : World} (hgd : o.guard = none) (s x : Operand)
    (ho : o.op = .call { callee := .builtin .append, args := #[s, x], argTypes := #[27, 27] })
    (base : Nat) (v : Value) (n : Nat) (xs : List UInt8) (hs : a.eval s = v) (hown : w.ownsRow base 5 1 v n (bytes xs)) (ad : Addr) (m c : Nat) (ys : List UInt8)
    (hx : a.eval x = .slice (some ad) m c) (hm : ys.length = m) (hy : BytesAt w (some ad) ys) (hn : n + m ≤ 140737488355328) (hb : base ≤ w.heap.size)
    (h : ∀ v' w', w'.ownsRow base 5 1 v' (n + m) (bytes (xs ++ ys)) → Keeps base 5 w w' → wpList Try.prog ops Q rest (a.put o.dst v') w') :
    wpList Try.prog ops Q (o :: rest) a w := by
  obtain ⟨i0, hi, hz0, hz1, hz2⟩ := info_parts Try.info5
  refine wpList_append_own _ hgd s x 27 ho base 5 i0 (.int .u8 0) 1 1 Try.underlying27 hi hz0 hz1 hz2 rfl (by decide) v n (bytes xs) hs hown ad m c (bytes ys) hx (by rw [bytes_len, hm]; omega) ?_ ?_ ?_ ?_ hb ?_
  · intro j u hj
    have hjl : j < ys.length := by have := (List.getElem?_eq_some_iff.1 hj).1; rwa [bytes_len] at this
    obtain ⟨ad', ha, hc⟩ := hy j hjl
    simp only [Option.some.injEq] at ha
    subst ha
    rw [hc]
    simp [bytes, hjl] at hj
    rw [← hj]
  · intro u hu
    obtain ⟨b, _, rfl⟩ := List.mem_map.1 hu
    rfl
  · unfold maxLen; omega
  · omega
  · intro v' w' h1' h2' _
    refine h v' w' ?_ (Keeps.grown (Keeps.refl _ _ _) hown h2')
    rw [bytes_append]; exact h1'

set_option maxHeartbeats 400000 in
theorem runsigned_any (n : Int) (w : World) (h1 : -9223372036854775808 ≤ n) (h2 : n ≤ 9223372036854775807) :
    Calls Try.prog 40 #[.int .i64 n] w fun e w' => e = .returned (.int .u64 (M.unsig n)) ∧ w = w' := by
  by_cases h0 : 0 ≤ n
  · go_enter Try.func40, Try.ntmps40
    go_wp2
    go_ret
    refine ⟨ret_int ?_, rfl⟩
    unfold M.unsig; rw [if_pos h0]
  · have h0' : n < 0 := by omega
    go_enter Try.func40, Try.ntmps40
    go_wp2
    go_ret
    refine ⟨ret_int ?_, rfl⟩
    unfold M.unsig; rw [if_neg (by omega)]; omega

set_option maxHeartbeats 1000000 in
theorem rnumeral_any : ∀ (u : Nat) (q : Int) (w : World), u < 18446744073709551616 → q = u → Calls Try.prog 39 #[.int .u64 q] w (Made (M.num u) w) := by
  intro u
  induction u using Nat.strongRecOn with
  | _ u ih =>
    intro q w hu hq
    by_cases hs : u < 128
    · have hq1 : 0 ≤ q := by omega
      have hq2 : q < 128 := by omega
      have HQ := Lib.hid hq
      have hh := heap_alloc_new w (.cells #[.int .u8 q] 5)
      clear ih hq
      go_enter Try.func39, Try.ntmps39
      go_wp2_with fail
      go_ret
      have hn := M.num_small u hs
      have ho := ownsRow_new hh (Nat.le_refl _) hq1 (by omega)
      rw [show q.toNat = u from by have := HQ.out; omega, ← hn] at ho
      have hl : (M.num u).length = 1 := by rw [hn]; rfl
      refine ⟨w.heap.size, 1, ?_, ?_, (Below.refl _ _).alloc (Nat.le_refl _) _⟩
      · rw [hl]; rfl
      · rw [hl]; exact ho
    · have hq1 : 128 ≤ q := by omega
      have hq2 : q ≤ 18446744073709551615 := by omega
      have HQ := Lib.hid hq
      have hh := heap_alloc_new w (.cells #[.int .u8 (q % 128 + 128)] 5)
      have ho := ownsRow_new hh (Nat.le_refl w.heap.size) (by omega) (by omega)
      have hn := M.num_big u hu hs
      rw [show (q % 128 + 128).toNat = u % 128 + 128 from by omega] at ho
      have hbA : Below w.heap.size w (w.alloc (.cells #[.int .u8 (q % 128 + 128)] 5)) := (Below.refl _ _).alloc (Nat.le_refl _) _
      have hc := ih (u / 128) (by omega) (q / 128) (w.alloc (.cells #[.int .u8 (q % 128 + 128)] 5)) (by omega) (by omega)
      have hln := (M.num_len (u / 128) (by omega)).2
      have HC := Lib.hid hc; have HN := Lib.hid hn; have HO := Lib.hid ho
      clear hc hn ho ih hq hh
      go_enter Try.func39, Try.ntmps39
      go_wp2_with fail
      refine HC.out.mono ?_
      rintro e w1 ⟨g, cap, rfl, ho1, hb1⟩
      have hby1 := owns_bytesAt ho1
      have ho0 := ownsRow_below HO.out hb1
      have HB1 := Lib.hid hby1; have HO0 := Lib.hid ho0
      have hsz := hb1.size
      have hb2 := hbA.trans (hb1.mono hbA.size)
      clear hby1 ho0 ho1
      go_wp2_with (at_builtin; refine wpl_cat rfl _ _ rfl w.heap.size _ 1 _ rfl HO0.out ⟨g, 0, none⟩ _ cap _ rfl rfl HB1.out (by omega) hb2.size ?_; intro v' w2 ho2 hk2)
      go_ret
      rw [List.singleton_append, ← HN.out] at ho2
      have hl : 1 + (M.num (u / 128)).length = (M.num u).length := by rw [HN.out, List.length_cons]; omega
      rw [hl] at ho2
      obtain ⟨g2, cap2, rfl, _⟩ := owns_form ho2 (by omega)
      exact ⟨g2, cap2, rfl, ho2, hb2.trans (hk2.below hb2.size)⟩

end Go.Proofs.Ytmhchpdogjbpmaa
