/- The algebra of sets of minutes, in numbers; the contracts in its words. -/
import Derived.Test.YtgabfjcobcndaaaHLift
namespace Go.Proofs.Ytgabfjcobcndaaa
open Go.RowKit

namespace M
def Nm (a : List Sp) : List Sp := N (mn a)
def U (a b : List Sp) : List Sp := N (fun m => mn a m || mn b m)
def I (a b : List Sp) : List Sp := N (fun m => mn a m && mn b m)
def D (a b : List Sp) : List Sp := N (fun m => mn a m && !mn b m)
theorem mn_Nm {a : List Sp} {k : Nat} (h : k < 1440) : mn (Nm a) k = mn a k := mn_N h
theorem mn_U {a b : List Sp} {k : Nat} (h : k < 1440) : mn (U a b) k = (mn a k || mn b k) := mn_N h
theorem mn_I {a b : List Sp} {k : Nat} (h : k < 1440) : mn (I a b) k = (mn a k && mn b k) := mn_N h
theorem mn_D {a b : List Sp} {k : Nat} (h : k < 1440) : mn (D a b) k = (mn a k && !mn b k) := mn_N h
theorem U_comm (a b : List Sp) : U a b = U b a := N_ext fun k _ => by cases mn a k <;> cases mn b k <;> rfl
theorem I_comm (a b : List Sp) : I a b = I b a := N_ext fun k _ => by cases mn a k <;> cases mn b k <;> rfl
theorem U_assoc (a b c : List Sp) : U (U a b) c = U a (U b c) := N_ext fun k h => by rw [mn_U h, mn_U h]; cases mn a k <;> cases mn b k <;> cases mn c k <;> rfl
theorem I_assoc (a b c : List Sp) : I (I a b) c = I a (I b c) := N_ext fun k h => by rw [mn_I h, mn_I h]; cases mn a k <;> cases mn b k <;> cases mn c k <;> rfl
theorem I_dist (a b c : List Sp) : I a (U b c) = U (I a b) (I a c) := N_ext fun k h => by rw [mn_U h, mn_I h, mn_I h]; cases mn a k <;> cases mn b k <;> cases mn c k <;> rfl
theorem U_idem (a : List Sp) : U a a = Nm a := N_ext fun k _ => by cases mn a k <;> rfl
theorem I_idem (a : List Sp) : I a a = Nm a := N_ext fun k _ => by cases mn a k <;> rfl
theorem N_idem (a : List Sp) : Nm (Nm a) = Nm a := N_ext fun _ h => mn_Nm h
theorem D_U (a b c : List Sp) : D a (U b c) = D (D a b) c := N_ext fun k h => by rw [mn_U h, mn_D h]; cases mn a k <;> cases mn b k <;> cases mn c k <;> rfl
theorem D_self (a : List Sp) : D a a = [] := N_none fun k _ => by cases mn a k <;> rfl
theorem DI_none (a b : List Sp) : I (D a b) (I a b) = [] := N_none fun k h => by rw [mn_D h, mn_I h]; cases mn a k <;> cases mn b k <;> rfl
theorem DB_none (a b : List Sp) : I (D a b) b = [] := N_none fun k h => by rw [mn_D h]; cases mn a k <;> cases mn b k <;> rfl
theorem DI_all (a b : List Sp) : U (D a b) (I a b) = Nm a := N_ext fun k h => by rw [mn_D h, mn_I h]; cases mn a k <;> cases mn b k <;> rfl
theorem DB_all (a b : List Sp) : U (D a b) b = U a b := N_ext fun k h => by rw [mn_D h]; cases mn a k <;> cases mn b k <;> rfl
end M

theorem nm_any {l : List M.Sp} {v : Value} {w : World} (h : SL w v l) : Calls Try.prog 14 #[v] w (Hands w (M.Nm l)) := normal_any h
theorem u_any {la lb : List M.Sp} {va vb : Value} {w : World} (ha : SL w va la) (hb : SL w vb lb) : Calls Try.prog 16 #[va, vb] w (Hands w (M.U la lb)) := union_any ha hb
theorem i_any {la lb : List M.Sp} {va vb : Value} {w : World} (ha : SL w va la) (hb : SL w vb lb) : Calls Try.prog 18 #[va, vb] w (Hands w (M.I la lb)) := meet_any ha hb
theorem d_any {la lb : List M.Sp} {va vb : Value} {w : World} (ha : SL w va la) (hb : SL w vb lb) : Calls Try.prog 20 #[va, vb] w (Hands w (M.D la lb)) := minus_any ha hb
theorem d_none {la : List M.Sp} {va : Value} {w : World} (ha : SL w va la) : Calls Try.prog 20 #[va, va] w (Hands w []) := M.D_self la ▸ d_any ha ha
theorem i_none {la lb : List M.Sp} {va vb : Value} {w : World} (ha : SL w va la) (hb : SL w vb lb) (e : M.I la lb = []) : Calls Try.prog 18 #[va, vb] w (Hands w []) := e ▸ i_any ha hb
theorem few_yes {l : List M.Sp} {v : Value} {w : World} (h : SL w v l) (hl : l.length ≤ 40) : Calls Try.prog 10 #[v] w fun e w' => e = .returned (.bool true) ∧ w' = w := by
  have h1 := few_any h
  rw [decide_eq_true hl] at h1
  exact h1
theorem few_no {l : List M.Sp} {v : Value} {w : World} (h : SL w v l) (hl : ¬ l.length ≤ 40) : Calls Try.prog 10 #[v] w fun e w' => e = .returned (.bool false) ∧ w' = w := by
  have h1 := few_any h
  rw [decide_eq_false hl] at h1
  exact h1

end Go.Proofs.Ytgabfjcobcndaaa
