/- Contracts of the reference's Int, Text, List; what Encode hands back, as bytes. -/
import Derived.Test.YtmhchpdogjbpmaaEncode
import Derived.Test.YtmhchpdogjbpmaaDecode
import Derived.Test.YtmhchpdogjbpmaaSame
namespace Go.Proofs.Ytmhchpdogjbpmaa
open Go.RowKit

theorem int_any (n : Int) (w : World) :
    Calls Try.prog 23 #[.int .i64 n] w fun e w' => e = .returned (.agg #[.int .i64 1, .int .i64 n, .string ⟨#[]⟩, .slice none 0 0]) ∧ Below w.heap.size w w' := by
  go_enter Try.func23, Try.ntmps23
  go_wp2_with fail
  refine bodyPost_ret (v := .agg #[.int .i64 1, .int .i64 n, .string ⟨#[]⟩, .slice none 0 0]) (by simp [results, Try.results23, go_sem]) rfl ⟨rfl, ?_⟩
  exact (Below.refl _ _).alloc (Nat.le_refl _) _

theorem text_any (s : ByteArray) (w : World) :
    Calls Try.prog 24 #[.string s] w fun e w' => e = .returned (.agg #[.int .i64 2, .int .i64 0, .string s, .slice none 0 0]) ∧ Below w.heap.size w w' := by
  go_enter Try.func24, Try.ntmps24
  go_wp2_with fail
  refine bodyPost_ret (v := .agg #[.int .i64 2, .int .i64 0, .string s, .slice none 0 0]) (by simp [results, Try.results24, go_sem]) rfl ⟨rfl, ?_⟩
  exact (Below.refl _ _).alloc (Nat.le_refl _) _

theorem rlist_any (a : Option Addr) (len cap : Nat) (w : World) :
    Calls Try.prog 22 #[.slice a len cap] w fun e w' => e = .returned (.agg #[.int .i64 3, .int .i64 0, .string ⟨#[]⟩, .slice a len cap]) ∧ Below w.heap.size w w' := by
  go_enter Try.func22, Try.ntmps22
  go_wp2_with fail
  refine bodyPost_ret (v := .agg #[.int .i64 3, .int .i64 0, .string ⟨#[]⟩, .slice a len cap]) (by simp [results, Try.results22, go_sem]) rfl ⟨rfl, ?_⟩
  exact (Below.refl _ _).alloc (Nat.le_refl _) _

theorem BytesAt.kept {w w' : World} {a : Option Addr} {bs : List UInt8} (h : BytesAt w a bs) (hb : Below w.heap.size w w') : BytesAt w' a bs := fun i hi => by
  obtain ⟨ad, ha, hc⟩ := h i hi
  exact ⟨ad, ha, (hb.cell (block_lt_of_cell hc)).trans hc⟩

/-- What Encode hands back, said as bytes. -/
theorem EncRes.cases {d : Nat} {t : M.T d} {w w' : World} {e : Ending} (h : EncRes d t w e w') :
    (M.check d t = 0 ∧ ∃ a cap, e = .returned (.tuple #[.slice a (M.enc d t).length cap, .int .i64 0]) ∧ (M.enc d t).length ≤ cap ∧ BytesAt w' a (M.enc d t) ∧ Below w.heap.size w w') ∨
    (M.check d t ≠ 0 ∧ e = .returned (.tuple #[.slice none 0 0, .int .i64 (M.check d t)]) ∧ Below w.heap.size w w') := by
  obtain ⟨v, rfl, h1, h2, hb⟩ := h
  by_cases hc : M.check d t = 0
  · refine .inl ⟨hc, ?_⟩
    have ho := h1 hc
    have hcells := fun g hg => ho.cells (g := g) hg
    rcases ho.2 with ⟨rfl, h0⟩ | ⟨g, cap, cur, rfl, hrest⟩
    · refine ⟨none, 0, by rw [hc, h0], by omega, fun i hi => by omega, hb⟩
    · refine ⟨some ⟨g, 0, none⟩, cap, by rw [hc], ?_, fun i hi => ⟨⟨g, 0, none⟩, rfl, ?_⟩, hb⟩
      · obtain ⟨_, _, hcap, _⟩ := hrest; exact hcap
      · exact hcells g rfl i _ (by simp [bytes, hi])
  · exact .inr ⟨hc, by rw [h2 hc], hb⟩

/-- 'string(b)'. -/
theorem bytes_string {w : World} {a : Option Addr} {bs : List UInt8} (cap : Nat) (h : BytesAt w a bs) :
    (convert 27 9 (.slice a bs.length cap)).run Try.prog w = .ok (.string ⟨bs.toArray⟩) w := by
  cases a with
  | none =>
    have h0 : bs = [] := by
      rcases Nat.eq_zero_or_pos bs.length with h0 | h0
      · exact List.length_eq_zero_iff.1 h0
      · obtain ⟨ad, ha, _⟩ := h 0 h0; simp at ha
    subst h0
    rw [run_convert_bytes_string w _ _ 5 none _ cap Try.underlying27 Try.underlying5 Try.underlying9]
    simp [Conv.bytesToString]
    rfl
  | some ad =>
    exact run_convert_bytes_back (P := Try.prog) w 27 9 5 ad cap bs Try.underlying27 Try.underlying5 Try.underlying9 (fun j hj => by
      obtain ⟨ad', ha, hc⟩ := h j hj
      simp only [Option.some.injEq] at ha
      subst ha
      exact hc)

theorem bytes_str {w : World} {a : Option Addr} {bs : List UInt8} (cap : Nat) (h : BytesAt w a bs) {n : Nat} (hn : bs.length = n) {s : ByteArray} (hs : (⟨bs.toArray⟩ : ByteArray) = s) :
    (convert 27 9 (.slice a n cap)).run Try.prog w = .ok (.string s) w := by
  subst hn hs; exact bytes_string cap h

/-- '[]byte(s)'. -/
theorem string_bytes (w : World) (s : ByteArray) :
    ∃ cap w', (convert 9 27 (.string s)).run Try.prog w = .ok (.slice (some ⟨w.heap.size, 0, none⟩) s.size cap) w' ∧ s.size ≤ cap ∧ BytesAt w' (some ⟨w.heap.size, 0, none⟩) s.data.toList ∧ Below w.heap.size w w' := by
  refine ⟨_, _, run_bytes_of_string (P := Try.prog) w 9 27 5 s Try.underlying9 Try.underlying27 Try.underlying5, ?_, fun i hi => ⟨_, rfl, ?_⟩, (Below.refl _ _).drew.alloc (Nat.le_refl _) _⟩
  · exact grownCap_ge _ _ _ _
  · have hh : (w.drew.alloc (.cells (bytesRow s (grownCap w s.size 0 5)) 5 ((bytesRow s (grownCap w s.size 0 5)).size, (bytesRow s (grownCap w s.size 0 5)).size + 1))).heap[w.heap.size]? = some (.cells (bytesRow s (grownCap w s.size 0 5)) 5 ((bytesRow s (grownCap w s.size 0 5)).size, (bytesRow s (grownCap w s.size 0 5)).size + 1)) := by
      show (w.heap.push _)[w.heap.size]? = _
      simp
    have hb := bytesRow_at s (grownCap w s.size 0 5) i (by simpa using hi)
    have he : (⟨w.heap.size, 0, none⟩ : Addr).add i = ⟨w.heap.size, i, none⟩ := by unfold Addr.add; split <;> simp_all
    rw [he, cell_of_row _ w.heap.size i _ _ _ hh, hb]
    simp

/-- A list of no elements, an integer, a text. -/
def tInt (n : Int) : M.T 1 := (1, n, ⟨#[]⟩, [])
def tText (s : ByteArray) : M.T 1 := (2, 0, s, [])
theorem rep_int (w : World) (n : Int) (h1 : -9223372036854775808 ≤ n) (h2 : n ≤ 9223372036854775807) : Rep w.heap.size w 1 (tInt n) (.agg #[.int .i64 1, .int .i64 n, .string ⟨#[]⟩, .slice none 0 0]) :=
  ⟨⟨by decide, by decide⟩, ⟨h1, h2⟩, by decide, Nat.zero_le _, none, 0, rfl, .inl rfl⟩
theorem rep_text (w : World) (s : ByteArray) (h : s.size ≤ 140737488351232) : Rep w.heap.size w 1 (tText s) (.agg #[.int .i64 2, .int .i64 0, .string s, .slice none 0 0]) :=
  ⟨⟨by decide, by decide⟩, ⟨by decide, by decide⟩, h, Nat.zero_le _, none, 0, rfl, .inl rfl⟩
def tNil : M.T 1 := (3, 0, ⟨#[]⟩, [])
theorem rep_nil (w : World) : Rep w.heap.size w 1 tNil (.agg #[.int .i64 3, .int .i64 0, .string ⟨#[]⟩, .slice none 0 0]) :=
  ⟨⟨by decide, by decide⟩, ⟨by decide, by decide⟩, by decide, Nat.zero_le _, none, 0, rfl, .inl rfl⟩
def tZero : M.T 1 := (0, 0, ⟨#[]⟩, [])
theorem rep_zero (w : World) : Rep w.heap.size w 1 tZero (.agg #[.int .i64 0, .int .i64 0, .string ⟨#[]⟩, .slice none 0 0]) :=
  ⟨⟨by decide, by decide⟩, ⟨by decide, by decide⟩, by decide, Nat.zero_le _, none, 0, rfl, .inl rfl⟩
theorem check_int (n : Int) : M.check 1 (tInt n) = 0 := by simp [M.check, M.formed, M.depth, tInt]
theorem enc_int (n : Int) : M.enc 1 (tInt n) = 1 :: M.num (M.unsig n).toNat := by simp [M.enc, tInt]

theorem enc_m3 : M.enc 1 (tInt (-3)) = [1, 5] := by rw [enc_int, show (M.unsig (-3)).toNat = 5 from by decide, M.num_small 5 (by decide)]; rfl
def tPair : M.T 2 := (3, 0, ⟨#[]⟩, [tInt 100, tText ⟨#[97, 98]⟩])
theorem enc_100 : M.enc 1 (tInt 100) = [1, 200, 1] := by
  rw [enc_int, show (M.unsig 100).toNat = 200 from by decide, M.num_big 200 (by decide) (by decide), M.num_small (200 / 128) (by decide)]; rfl
theorem enc_ab : M.enc 1 (tText ⟨#[97, 98]⟩) = [2, 2, 97, 98] := by
  simp only [M.enc, tText, show (2 : Int) = 1 ↔ False from by decide, if_false, if_true]
  rw [show (⟨#[97, 98]⟩ : ByteArray).size = 2 from rfl, M.num_small 2 (by decide)]; rfl
theorem enc_pair : M.enc 2 tPair = [3, 2, 1, 200, 1, 2, 2, 97, 98] := by
  have : M.enc 2 tPair = 3 :: (M.num 2 ++ (M.enc 1 (tInt 100) ++ (M.enc 1 (tText ⟨#[97, 98]⟩) ++ []))) := rfl
  rw [this, enc_100, enc_ab, M.num_small 2 (by decide)]; rfl
theorem check_pair : M.check 2 tPair = 0 := by
  kernel_rfl

/-- What Encode hands back, where it encodes. -/
def EncAt (bs : List UInt8) (n : Nat) (w : World) (e : Ending) (w' : World) : Prop :=
  ∃ a cap, e = .returned (.tuple #[.slice a n cap, .int .i64 0]) ∧ n ≤ cap ∧ BytesAt w' a bs ∧ Below w.heap.size w w'
theorem encode_at (d : Nat) (t : M.T d) (v : Value) (w : World) (bs : List UInt8) (n : Nat) (hr : Rep w.heap.size w d t v) (hh : M.height d t ≤ 1099511627776) (hck : M.check d t = 0) (henc : M.enc d t = bs) (hn : bs.length = n) (hl : n ≤ 35184372088832) :
    Calls Try.prog 12 #[v] w (EncAt bs n w) := by
  subst henc hn
  refine (encode_any d t v w hr hh hl).mono fun e w' hres => ?_
  rcases hres.cases with ⟨_, a, cap, he, hc, hby, hb⟩ | ⟨h, _⟩
  · exact ⟨a, cap, he, hc, hby, hb⟩
  · exact absurd hck h
/-- What Decode hands back, where it decodes. -/
def DecAt (t : M.T 17) (w : World) (e : Ending) (w' : World) : Prop :=
  ∃ k n s a len cap, e = .returned (.tuple #[.agg #[.int .i64 k, .int .i64 n, .string s, .slice a len cap], .int .i64 0]) ∧ Rep w'.heap.size w' 17 t (.agg #[.int .i64 k, .int .i64 n, .string s, .slice a len cap]) ∧ Below w.heap.size w w'
theorem grownBy_below {w w' : World} (h : w.grownBy w' none) : Below w.heap.size w w' := ⟨h.os, h.tape, h.output, h.size, fun k hk => h.block k hk (by simp)⟩
theorem decode_at (a : Option Addr) (n cap : Nat) (bs : List UInt8) (w : World) (t : M.T 17) (hn : bs.length = n) (hl : n ≤ 1099511627776) (hc : n ≤ cap) (hb : BytesAt w a bs) (hd : M.dec bs = some t) :
    Calls Try.prog 18 #[.slice a n cap] w (DecAt t w) := by
  subst hn
  refine (decode_any a cap bs w hl hc hb).mono fun e w' hres => ?_
  rw [hd] at hres
  obtain ⟨hg, v, he, hr⟩ := hres
  obtain ⟨k, n, s, a, len, cap, hv⟩ := hr.shape
  subst hv
  exact ⟨k, n, s, a, len, cap, he, hr.rep (fun k hk => hk.2), grownBy_below hg⟩
/-- What Decode hands back, where it does not. -/
def DecNo (w : World) (e : Ending) (w' : World) : Prop :=
  e = .returned (.tuple #[.agg #[.int .i64 0, .int .i64 0, .string ⟨#[]⟩, .slice none 0 0], .int .i64 10]) ∧ Below w.heap.size w w'
theorem decode_no (a : Option Addr) (n cap : Nat) (bs : List UInt8) (w : World) (hn : bs.length = n) (hl : n ≤ 1099511627776) (hc : n ≤ cap) (hb : BytesAt w a bs) (hd : M.dec bs = none) :
    Calls Try.prog 18 #[.slice a n cap] w (DecNo w) := by
  subst hn
  refine (decode_any a cap bs w hl hc hb).mono fun e w' hres => ?_
  rw [hd] at hres
  exact ⟨hres.2, grownBy_below hres.1⟩

theorem dec_pair : ∃ t, M.dec [3, 2, 1, 200, 1, 2, 2, 97, 98] = some t ∧ M.same 2 tPair 17 t = true := by
  have h : (M.dec [3, 2, 1, 200, 1, 2, 2, 97, 98]).elim false (fun t => M.same 2 tPair 17 t) = true := by kernel_rfl
  cases hd : M.dec [3, 2, 1, 200, 1, 2, 2, 97, 98] with
  | none => rw [hd] at h; simp at h
  | some t => rw [hd] at h; exact ⟨t, rfl, h⟩
theorem size_pair : SizeRes 2 tPair = .tuple #[.int .i64 9, .int .i64 0] := by unfold SizeRes; rw [if_pos check_pair, enc_pair, check_pair]; rfl
theorem rep_pair {w : World} {B : Nat} (h : w.heap[B]? = some (.cells #[.int .i64 1, .int .i64 100, .string ⟨#[]⟩, .slice none 0 0, .int .i64 2, .int .i64 0, .string ⟨#[97, 98]⟩, .slice none 0 0] 24 (0, 0))) :
    Rep w.heap.size w 2 tPair (.agg #[.int .i64 3, .int .i64 0, .string ⟨#[]⟩, .slice (some ⟨B, 0, none⟩) 2 2]) := by
  have hlt : B < w.heap.size := (Array.getElem?_eq_some_iff.1 h).1
  refine ⟨⟨by decide, by decide⟩, ⟨by decide, by decide⟩, by decide, by decide, some ⟨B, 0, none⟩, 2, rfl, .inr ⟨B, 0, rfl, hlt, fun i x hx => ?_⟩⟩
  have hc := fun j => cell_of_row w B j _ _ _ h
  match i, hx with
  | 0, hx => simp at hx; subst hx; exact ⟨_, _, _, _, hc _, hc _, hc _, hc _, rep_int w 100 (by decide) (by decide)⟩
  | 1, hx => simp at hx; subst hx; exact ⟨_, _, _, _, hc _, hc _, hc _, hc _, rep_text w ⟨#[97, 98]⟩ (by decide)⟩

/-- The texts that are no encodings. -/
theorem bad_texts {w : World} {B : Nat} (h : w.heap[B]? = some (.cells #[.string ⟨#[]⟩, .string ⟨#[1, 128, 0]⟩, .string ⟨#[1, 5, 0]⟩, .string ⟨#[2, 3, 97]⟩] 9 (0, 0))) (k : Nat) (hk : k < 4) :
    ∃ s : ByteArray, w.cell? ⟨B, k, none⟩ = some (.string s) ∧ s.size ≤ 3 ∧ M.dec s.data.toList = none := by
  have hc := fun j => cell_of_row w B j _ _ _ h
  have hd : ∀ bs, (M.dec bs).isNone = true → M.dec bs = none := fun bs h => by simpa using h
  match k, hk with
  | 0, _ => exact ⟨_, hc _, by decide, hd _ (by kernel_rfl)⟩
  | 1, _ => exact ⟨_, hc _, by decide, hd _ (by kernel_rfl)⟩
  | 2, _ => exact ⟨_, hc _, by decide, hd _ (by kernel_rfl)⟩
  | 3, _ => exact ⟨_, hc _, by decide, hd _ (by kernel_rfl)⟩

end Go.Proofs.Ytmhchpdogjbpmaa
