/- Contract of Path at an element. -/
import Derived.Test.YthamligdmfhmeaaDoorSibs
namespace Go.Proofs.YthamligdmfhmeaaDoor
open Go.RowKit

set_option maxRecDepth 100000 in
set_option maxHeartbeats 1000000 in
theorem path_all (a : Option Addr) (n cap i : Nat) (ds : List (List UInt8)) (w : World) (hK : KT w) (hn : ds.length = n) (hcap : n ≤ cap) (hl : n ≤ 1099511627776) (hin : i < n) (hd : DigsAt w a ds) :
    Calls Tryd.prog 10 #[.slice a n cap, .int .i64 i] w fun e w' => ∃ A p c, e = .returned (.tuple #[.slice A p c, .int .i64 0]) ∧ (H.sibsF n ds i).length = p ∧ w'.ownsRow w.heap.size 24 32 (.slice A p c) p (bytes (H.sibsF n ds i).flatten) ∧ Below w.heap.size w w' := by
  have HS := Lib.hid (sibs_all n a n cap i ds w (by omega) (Nat.le_refl _) hl hK hn hcap hin hd)
  clear hK hn hd
  have hge : (i : Int) < (n : Int) := by omega
  have h0 : decide ((i : Int) < 0) = false := by simp
  have hd2 : decide ((i : Int) ≥ (n : Int)) = false := by simp; omega
  have hd3 : decide ((n : Int) ≤ (i : Int)) = false := by simp; omega
  have hd4 : decide (n ≤ i) = false := by simp; omega
  go_enter Tryd.func10, Tryd.ntmps10
  go_wp2_with fail
  refine HS.out.mono ?_
  rintro e w' ⟨A, p, c, rfl, h1, h2, h3⟩
  have HZ := Lib.hid (And.intro h1 (And.intro h2 h3))
  clear h1 h2 h3
  go_wp2_with fail
  go_ret2
  exact ⟨A, p, c, rfl, HZ.out.1, HZ.out.2.1, HZ.out.2.2⟩

end Go.Proofs.YthamligdmfhmeaaDoor
