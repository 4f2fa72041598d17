/- CodecNumbers holds: for every two numbers the sizes of their encodings are at most 11, a number nearer to 0 never has a longer one, and each is decoded as itself. No condition. -/
import Derived.Test.YtmhchpdogjbpmaaSane
import Derived.Test.YtmhchpdogjbpmaaBack
import Derived.ProofKit
import Derived.OpenShut
import Derived.Carry
namespace Go.Proofs.Ytmhchpdogjbpmaa
open Go.RowKit

theorem dec_int (a : Int) (h1 : -9223372036854775808 ≤ a) (h2 : a ≤ 9223372036854775807) : M.dec (M.enc 1 (tInt a)) = some (1, a, ⟨#[]⟩, []) := by
  have hu := M.unsig_bd a h1 h2
  rw [enc_int]
  have hn : M.rdNum 0 0 (M.num (M.unsig a).toNat) = some ((M.unsig a).toNat, []) := by
    have := M.rdNum_back (M.unsig a).toNat [] (by omega)
    simpa using this
  unfold M.dec
  rw [M.rdVal, M.rdWith, if_pos rfl, hn]
  simp only []
  rw [show ((M.unsig a).toNat : Int) = M.unsig a from by omega, M.sig_unsig]
  rfl

theorem enc_int_len (a : Int) (h1 : -9223372036854775808 ≤ a) (h2 : a ≤ 9223372036854775807) : 2 ≤ (M.enc 1 (tInt a)).length ∧ (M.enc 1 (tInt a)).length ≤ 11 := by
  have hu := M.unsig_bd a h1 h2
  have := M.num_len (M.unsig a).toNat (by omega)
  rw [enc_int, List.length_cons]; omega

theorem enc_int_mono (a b : Int) (h1 : -9223372036854775808 ≤ b) (h2 : b ≤ 9223372036854775807) (h : (0 ≤ a ∧ a ≤ b) ∨ (a < 0 ∧ b ≤ a)) : (M.enc 1 (tInt a)).length ≤ (M.enc 1 (tInt b)).length := by
  have hu := M.unsig_bd b h1 h2
  have hm : M.unsig a ≤ M.unsig b := by
    rcases h with h | h
    · exact M.unsig_mono_pos a b h.1 h.2
    · exact M.unsig_mono_neg a b h.1 h.2
  have := M.num_mono (M.unsig a).toNat (M.unsig b).toNat (by omega) (by omega)
  rw [enc_int, enc_int, List.length_cons, List.length_cons]; omega

theorem sizeRes_int (a : Int) : SizeRes 1 (tInt a) = .tuple #[.int .i64 ((M.enc 1 (tInt a)).length : Int), .int .i64 0] := by unfold SizeRes; rw [if_pos (check_int a), check_int]

/-- What Size hands back for an integer. -/
theorem sizeTop_int (a : Int) (w : World) (m : Nat) (hm : (M.enc 1 (tInt a)).length = m) (h1 : -9223372036854775808 ≤ a) (h2 : a ≤ 9223372036854775807) (h3 : m ≤ 11) :
    Calls Try.prog 14 #[.agg #[.int .i64 1, .int .i64 a, .string ⟨#[]⟩, .slice none 0 0]] w fun e w' => e = .returned (.tuple #[.int .i64 m, .int .i64 0]) ∧ Below w.heap.size w w' := by
  have := sizeTop_any 1 (tInt a) _ w (rep_int w a h1 h2) (by simp [M.height, tInt, M.lmax]) (by omega)
  rw [sizeRes_int, hm] at this; exact this

/-- What Decode hands back for the encoding of an integer. -/
def DecInt (a : Int) (w : World) (e : Ending) (w' : World) : Prop := ∃ p cap, e = .returned (.tuple #[.agg #[.int .i64 1, .int .i64 a, .string ⟨#[]⟩, .slice p 0 cap], .int .i64 0]) ∧ Below w.heap.size w w'
theorem decode_int (a : Int) (p : Option Addr) (n cap : Nat) (w : World) (hn : (M.enc 1 (tInt a)).length = n) (h1 : -9223372036854775808 ≤ a) (h2 : a ≤ 9223372036854775807) (h3 : n ≤ 11) (hc : n ≤ cap) (hb : BytesAt w p (M.enc 1 (tInt a))) :
    Calls Try.prog 18 #[.slice p n cap] w (DecInt a w) := by
  refine (decode_at p n cap _ w _ hn (by omega) hc hb (dec_int a h1 h2)).mono ?_
  rintro e w' ⟨k, n', s, l, len, cap', rfl, hr, hb⟩
  obtain ⟨_, _, _, _, q, c, hv, _⟩ := hr
  rw [hv]
  exact ⟨q, c, rfl, hb⟩

set_option maxRecDepth 100000 in
set_option maxHeartbeats 4000000 in
theorem numbers_walk (a b : Int) (ha1 : -9223372036854775808 ≤ a) (ha2 : a ≤ 9223372036854775807) (hb1 : -9223372036854775808 ≤ b) (hb2 : b ≤ 9223372036854775807) (w : World) :
    Calls Try.prog 9 #[.int .i64 a, .int .i64 b] w fun e w' => e = .returned (.bool true) ∧ Below w.heap.size w w' := by
  obtain ⟨m, hm⟩ : ∃ m, (M.enc 1 (tInt a)).length = m := ⟨_, rfl⟩
  obtain ⟨n, hn⟩ : ∃ n, (M.enc 1 (tInt b)).length = n := ⟨_, rfl⟩
  have hlm := enc_int_len a ha1 ha2
  have hln := enc_int_len b hb1 hb2
  have hmo := enc_int_mono a b hb1 hb2
  rw [hm] at hlm hmo
  rw [hn] at hln hmo
  obtain ⟨hm2, hm11⟩ := hlm
  obtain ⟨hn2, hn11⟩ := hln
  have HM := Lib.hid hm; have HN := Lib.hid hn; clear hm hn
  have hcase : (0 ≤ a ∧ a ≤ b ∧ m ≤ n) ∨ (0 ≤ a ∧ b < a) ∨ (a < 0 ∧ b ≤ a ∧ m ≤ n) ∨ (a < 0 ∧ a < b) := by
    rcases (show a < 0 ∨ 0 ≤ a from by omega) with h | h
    · rcases (show a < b ∨ b ≤ a from by omega) with h' | h'
      · exact .inr (.inr (.inr ⟨h, h'⟩))
      · exact .inr (.inr (.inl ⟨h, h', hmo (.inr ⟨h, h'⟩)⟩))
    · rcases (show b < a ∨ a ≤ b from by omega) with h' | h'
      · exact .inr (.inl ⟨h, h'⟩)
      · exact .inl ⟨h, h', hmo (.inl ⟨h, h'⟩)⟩
  clear hmo
  go_enter Try.func9, Try.ntmps9
  go_wp2_with fail
  refine (sane_any w).mono ?_
  rintro e w1 ⟨rfl, g1⟩
  go_wp2_with fail
  refine (int_any a w1).mono ?_
  rintro e w2 ⟨rfl, g2⟩
  go_wp2_with fail
  refine (sizeTop_int a w2 m HM.out ha1 ha2 hm11).mono ?_
  rintro e w3 ⟨rfl, g3⟩
  go_wp2_with fail
  refine (int_any b w3).mono ?_
  rintro e w4 ⟨rfl, g4⟩
  go_wp2_with fail
  refine (sizeTop_int b w4 n HN.out hb1 hb2 hn11).mono ?_
  rintro e w5 ⟨rfl, g5⟩
  have G5 := g1.trans ((g2.trans ((g3.trans ((g4.trans (g5.mono g4.size)).mono g3.size)).mono g2.size)).mono g1.size)
  clear g1 g2 g3 g4 g5 w1 w2 w3 w4
  rcases hcase with ⟨c1, c2, c3⟩ | ⟨c1, c2⟩ | ⟨c1, c2, c3⟩ | ⟨c1, c2⟩
  all_goals
    go_wp2_with fail
    refine (int_any a w5).mono ?_
    rintro e w6 ⟨rfl, g6⟩
    go_wp2_with fail
    refine (encode_at 1 (tInt a) _ w6 _ m (rep_int w6 a ha1 ha2) (by simp [M.height, tInt, M.lmax]) (check_int _) rfl HM.out (by omega)).mono ?_
    rintro e w7 ⟨a7, cap7, rfl, hc7, hby7, g7⟩
    have HBY := Lib.hid hby7; clear hby7
    go_wp2_with fail
    refine (decode_int a a7 m cap7 w7 HM.out ha1 ha2 hm11 hc7 HBY.out).mono ?_
    rintro e w8 ⟨p8, cap8, rfl, g8⟩
    have G8 := G5.trans ((g6.trans ((g7.trans (g8.mono g7.size)).mono g6.size)).mono G5.size)
    clear g6 g7 g8 G5 HBY HM HN
    go_wp2_with fail
    go_ret
    exact ⟨rfl, G8.alloc G8.size _⟩

end Go.Proofs.Ytmhchpdogjbpmaa
