/- Contracts of codec's write and its kin: they append the encoding to a slice that the caller owns. -/
import Derived.Test.YtmhchpdogjbpmaaSize
import Derived.Deep.RegionHeld3
import Derived.Deep.AppendLies
import Derived.Lib.AppendStr
namespace Go.Proofs.Ytmhchpdogjbpmaa
open Go.RowKit

/-- At a step of a region that draws: 'append(b, c)', one byte c in a cell somewhere. -/
theorem step_push {ops : Array Oper} {o : Oper} {a : Act} {K : Act → World → Prop} {Q : Exit → Act → World → Prop} {E : Prop} {w : World} (hgd : o.guard = none) (s x : Operand)
    (ho : o.op = .call { callee := .builtin .append, args := #[s, x], argTypes := #[27, 27] })
    (base : Nat) (v : Value) (n : Nat) (xs : List UInt8) (hs : a.eval s = v) (hown : w.ownsRow base 5 1 v n (bytes xs)) (ad : Addr) (k : Int)
    (hx : a.eval x = .slice (some ad) 1 1) (hc : w.cell? ad = some (.int .u8 k)) (h0 : 0 ≤ k) (h1 : k < 256) (hn : n ≤ 140737488355327) (hb : base ≤ w.heap.size)
    (h : ∀ v' w', w'.ownsRow base 5 1 v' (n + 1) (bytes (xs ++ [UInt8.ofNat k.toNat])) → Keeps base 5 w w' → K (a.put o.dst v') w') :
    if Region.wanted o (yielded ops a.tmps) = true then Oper.wp Try.prog o a w K Q else E := by
  obtain ⟨i0, hi, hz0, hz1, hz2⟩ := info_parts Try.info5
  have hw : Region.wanted o (yielded ops a.tmps) = true := by simp [Region.wanted, hgd]
  rw [if_pos hw]
  refine wp_append_own w s x 27 ho base 5 i0 (.int .u8 0) 1 1 Try.underlying27 hi hz0 hz1 hz2 rfl (by decide) v n (bytes xs) hs hown ad 1 1 [.int .u8 k] hx rfl ?_ ?_ ?_ ?_ hb ?_
  · intro j u hj
    match j, hj with
    | 0, hj => simp at hj; subst hj; simpa [Addr.add] using hc
  · intro u hu; simp at hu; subst hu; rfl
  · unfold maxLen; omega
  · omega
  · intro v' w' h1' h2' _
    refine h v' w' ?_ (Keeps.grown (Keeps.refl _ _ _) hown h2')
    rw [← bytes_one xs k.toNat (by omega), Int.toNat_of_nonneg h0]
    exact h1'

/-- At a step of a region that draws: 'append(b, s...)', s a string. -/
theorem step_str {ops : Array Oper} {o : Oper} {a : Act} {K : Act → World → Prop} {Q : Exit → Act → World → Prop} {E : Prop} {w : World} (hgd : o.guard = none) (sl x : Operand)
    (ho : o.op = .call { callee := .builtin .append, args := #[sl, x], argTypes := #[27, 9] })
    (base : Nat) (v : Value) (n : Nat) (xs : List UInt8) (hs : a.eval sl = v) (hown : w.ownsRow base 5 1 v n (bytes xs)) (s : ByteArray)
    (hx : a.eval x = .string s) (hn : n + s.size ≤ 140737488355328) (hb : base ≤ w.heap.size)
    (h : ∀ v' w', w'.ownsRow base 5 1 v' (n + s.size) (bytes (xs ++ s.data.toList)) → Keeps base 5 w w' → K (a.put o.dst v') w') :
    if Region.wanted o (yielded ops a.tmps) = true then Oper.wp Try.prog o a w K Q else E := by
  obtain ⟨i0, hi, hz0, hz1, hz2⟩ := info_parts Try.info5
  have hw : Region.wanted o (yielded ops a.tmps) = true := by simp [Region.wanted, hgd]
  rw [if_pos hw]
  obtain ⟨v', w', hr, h2, h3, _⟩ := Lib.run_append_own_string (P := Try.prog) w base 27 9 o.type 5 i0 Try.underlying27 Try.underlying9 hi hz0 hz1 hz2 v n (bytes xs) hown s (by unfold maxLen; omega) hn hb
  unfold Oper.wp execOp
  simp only [ho, resolve, invoke, builtin, Sem.run_bind, Sem.run_pure, Result.andThen_ok, List.map_toArray, List.map_cons, List.map_nil, hs, hx, hr]
  refine h v' w' ?_ (Keeps.grown (Keeps.refl _ _ _) hown h3)
  have e : bytes (xs ++ s.data.toList) = bytes xs ++ Lib.strCells s := by rw [bytes_append]; rfl
  rw [e]; exact h2

set_option maxHeartbeats 400000 in
theorem writeInt_any (k n : Int) (s : ByteArray) (a : Option Addr) (len cap : Nat) (w : World) (h1 : -9223372036854775808 ≤ n) (h2 : n ≤ 9223372036854775807)
    (base : Nat) (b : Value) (m : Nat) (xs : List UInt8) (ho : w.ownsRow base 5 1 b m (bytes xs)) (hb : base ≤ w.heap.size) (hn : m ≤ 70368744177664) :
    Calls Try.prog 49 #[b, .agg #[.int .i64 k, .int .i64 n, .string s, .slice a len cap]] w (Wrote base m xs (M.num (M.unsig n).toNat) w) := by
  have hu := M.unsig_bd n h1 h2
  go_enter Try.func49, Try.ntmps49
  go_wp2_with (first
    | (go_at_call 57; refine (unsigned_any _ _ h1 h2).mono ?_; rintro e w1 ⟨rfl, rfl⟩)
    | (go_at_call 58; refine (writeNumeral_any base _ m xs _ _ hu.1 hu.2 (ho.alloc _) (by simp; omega) hn).mono ?_; rintro e w1 ⟨v1, rfl, ho1, hk1⟩))
  go_ret
  exact ⟨_, rfl, ho1, ((Keeps.refl _ _ _).alloc _).trans hk1⟩

theorem wrap_u64 (n : Int) (h0 : 0 ≤ n) (h1 : n ≤ 18446744073709551615) : IntKind.u64.wrap n = n := by rw [IntKind.wrap_u64]; omega

set_option maxHeartbeats 1000000 in
theorem writeText_any (k n : Int) (s : ByteArray) (a : Option Addr) (len cap : Nat) (w : World) (hs : s.size ≤ 70368744177664)
    (base : Nat) (b : Value) (m : Nat) (xs : List UInt8) (ho : w.ownsRow base 5 1 b m (bytes xs)) (hb : base ≤ w.heap.size) (hn : m ≤ 35184372088832) :
    Calls Try.prog 52 #[b, .agg #[.int .i64 k, .int .i64 n, .string s, .slice a len cap]] w (Wrote base m xs (M.num s.size ++ s.data.toList) w) := by
  have hl := (M.num_len s.size (by omega)).2
  go_enter Try.func52, Try.ntmps52
  go_wp2_with fail
  have hbox : (w.alloc (.cells #[.int .i64 k, .int .i64 n, .string s, .slice a len cap] 24)).heap[w.heap.size]? = some (.cells #[.int .i64 k, .int .i64 n, .string s, .slice a len cap] 24 (0, 0)) := heap_alloc_new w _
  have hkw : Keeps base 5 w (w.alloc (.cells #[.int .i64 k, .int .i64 n, .string s, .slice a len cap] 24)) := (Keeps.refl _ _ _).alloc _
  have hoW := ho.alloc (.cells #[.int .i64 k, .int .i64 n, .string s, .slice a len cap] 24)
  generalize hW : w.alloc (.cells #[.int .i64 k, .int .i64 n, .string s, .slice a len cap] 24) = W at *
  clear hW
  have hbW : base ≤ W.heap.size := Nat.le_trans hb hkw.size
  have hc2 : W.cell? ⟨w.heap.size, 2, none⟩ = some (.string s) := by rw [cell_of_row W w.heap.size 2 _ _ _ hbox]; rfl
  have hoD : W.drew.ownsRow base 5 1 b m (bytes xs) := hoW.drew
  go_region_held3 (fun w' => w'.cell? ⟨w.heap.size, 2, none⟩ = some (.string s)) (first | go_keep | assumption)
    (first
      | (go_at_call 58; rw [wrap_u64 _ (by omega) (by omega)]; refine (writeNumeral_any base _ m xs _ _ (by omega) (by omega) hoD hbW (by omega)).mono ?_; rintro e w1 ⟨v1, rfl, ho1, hk1⟩; have hc2' : w1.cell? ⟨w.heap.size, 2, none⟩ = some (.string s) := by rw [cell_of_row w1 w.heap.size 2 _ _ _ (hk1.other hbox (by decide))]; rfl)
      | (refine step_str rfl _ _ rfl base _ _ _ rfl ho1 s rfl (by simp; omega) (Nat.le_trans hbW hk1.size) ?_; intro v2 w2 ho2 hk2; have hc2'' : w2.cell? ⟨w.heap.size, 2, none⟩ = some (.string s) := by rw [cell_of_row w2 w.heap.size 2 _ _ _ (hk2.other (hk1.other hbox (by decide)) (by decide))]; rfl))
  go_wp2_with fail
  go_ret
  refine ⟨_, rfl, ?_, (hkw.drew.trans (hk1.trans hk2))⟩
  rw [List.length_append, ← Nat.add_assoc, ← List.append_assoc]
  simpa using ho2

set_option maxHeartbeats 1000000 in
theorem writeList_any (B : Nat) (d : Nat) (k n : Int) (s : ByteArray) (l : List (M.T d)) (a : Option Addr) (cap : Nat) (w : World) (hlen : l.length ≤ 70368744177664)
    (base : Nat) (b : Value) (m : Nat) (xs : List UInt8) (ho : w.ownsRow base 5 1 b m (bytes xs)) (hb : base ≤ w.heap.size) (hB : B ≤ base)
    (hl : Elems B w d a l) (hsz : m + (M.num l.length).length + (l.map (M.enc d)).flatten.length ≤ 35184372088832)
    (ih : ∀ (x : M.T d), x ∈ l → ∀ (v b : Value) (m : Nat) (xs : List UInt8) (w : World), Rep B w d x v → w.ownsRow base 5 1 b m (bytes xs) → base ≤ w.heap.size → m + (M.enc d x).length ≤ 35184372088832 → Calls Try.prog 26 #[b, v] w (Wrote base m xs (M.enc d x) w)) :
    Calls Try.prog 55 #[b, .agg #[.int .i64 k, .int .i64 n, .string s, .slice a l.length cap]] w (Wrote base m xs (M.num l.length ++ (l.map (M.enc d)).flatten) w) := by
  have hnl := (M.num_len l.length (by omega)).2
  have hkw : Keeps base 5 w (w.alloc (.cells #[.int .i64 k, .int .i64 n, .string s, .slice a l.length cap] 24)) := (Keeps.refl _ _ _).alloc _
  have hbox : (w.alloc (.cells #[.int .i64 k, .int .i64 n, .string s, .slice a l.length cap] 24)).heap[w.heap.size]? = some (.cells #[.int .i64 k, .int .i64 n, .string s, .slice a l.length cap] 24 (0, 0)) := heap_alloc_new w _
  go_enter Try.func55, Try.ntmps55
  go_wp2_with (go_at_call 58; refine (writeNumeral_any base _ m xs _ _ (by omega) (by omega) (ho.alloc _) (by simp; omega) (by omega)).mono ?_; rintro e w1 ⟨v1, rfl, ho1, hk1⟩; have hc3 : w1.cell? ⟨w.heap.size, 3, none⟩ = some (.slice a l.length cap) := (by rw [cell_of_row w1 w.heap.size 3 _ _ _ (hk1.other hbox (by decide))]; rfl))
  have hkk := hkw.trans hk1
  clear hkw hk1 hc3 hbox
  go_loopw [0, 16] (fun bb ii wr => ∃ j : Nat, j ≤ l.length ∧ ii = .int .i64 j ∧ wr.ownsRow base 5 1 bb (m + (M.num l.length ++ ((l.take j).map (M.enc d)).flatten).length) (bytes (xs ++ (M.num l.length ++ ((l.take j).map (M.enc d)).flatten))) ∧ Keeps base 5 w wr)
    (fun _ ii _ => l.length - (intOf ii).toNat)
  case atStart => exact ⟨0, Nat.zero_le _, rfl, by simpa using ho1, hkk⟩
  case round =>
    obtain ⟨j, hj, rfl, hown, hkr⟩ := hrel
    have hle := M.flat_take_le (M.enc d) l j
    have hbr := hkr.below hb
    have hbs : base ≤ wr.heap.size := Nat.le_trans hb hkr.size
    by_cases hlt : j < l.length
    · obtain ⟨b, off, kx, nx, sx, ax, lx, px, rfl, hbB, e0, e1, e2, e3, hrep⟩ := hl.at (hbr.mono hB) hlt
      have hpart := M.flat_part_le (M.enc d) l j hlt
      have hsnoc := M.flat_snoc (M.enc d) l j hlt
      have hla : (M.num l.length ++ ((l.take j).map (M.enc d)).flatten).length = (M.num l.length).length + ((l.take j).map (M.enc d)).flatten.length := List.length_append
      have hc := ih l[j] (List.getElem_mem hlt) _ u0 (m + (M.num l.length ++ ((l.take j).map (M.enc d)).flatten).length) _ (wr.alloc (.cells #[.int .i64 kx, .int .i64 nx, .string sx, .slice ax lx px] 24)) (hrep.kept ((Below.refl _ _).alloc (by omega) _)) (hown.alloc _) (by simp; omega) (by omega)
      have HC := Lib.hid hc; have HS := Lib.hid hsnoc; clear hc hsnoc
      go_wp2_with (go_at_call 26; refine (HC.out).mono ?_; rintro e w2 ⟨v2, rfl, ho2, hk2⟩)
      go_roundw
      case rel =>
        refine ⟨j + 1, by omega, by go_num, ?_, hkr.trans (((Keeps.refl _ _ _).alloc _).trans hk2)⟩
        rw [HS.out, ← List.append_assoc (M.num l.length), ← List.append_assoc xs, List.length_append (bs := M.enc d l[j]), ← Nat.add_assoc]
        exact ho2
      case measure => simp [intOf]; omega
    · obtain rfl : j = l.length := by omega
      rw [List.take_length] at *
      go_wp2_with fail
      go_ret
      exact ⟨_, rfl, hown, hkr⟩

theorem ownsRow_below {w w' : World} {base : Nat} {e : TypeId} {size : Nat} {v : Value} {n : Nat} {xs : List Value} (h : w.ownsRow base e size v n xs) (hb : Below w.heap.size w w') : w'.ownsRow base e size v n xs :=
  h.kept (row := none) ⟨hb.os, hb.tape, hb.output, hb.size, fun k hk _ => hb.block k hk⟩ (by cases h : v.ownBlock <;> simp)

theorem box_at {base B0 : Nat} {V cur : World} {v0 v1 v2 v3 : Value} (hk : Keeps base 5 V cur) (hbox : V.heap[B0]? = some (.cells #[v0, v1, v2, v3] 24 (0, 0))) :
    cur.cell? ⟨B0, 0, none⟩ = some v0 ∧ cur.cell? ⟨B0, 1, none⟩ = some v1 ∧ cur.cell? ⟨B0, 2, none⟩ = some v2 ∧ cur.cell? ⟨B0, 3, none⟩ = some v3 := by
  have h := hk.other hbox (by decide)
  refine ⟨?_, ?_, ?_, ?_⟩ <;> (rw [cell_of_row cur B0 _ _ _ _ h]; rfl)

end Go.Proofs.Ytmhchpdogjbpmaa
