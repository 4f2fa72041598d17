/- Contract of climb along a path. -/
import Derived.Test.YthamligdmfhmeaaDoorClimb
import Derived.Test.YthamligdmfhmeaaDoorSibs
import Derived.Test.YthamligdmfhmeaaDoorSane
namespace Go.Proofs.YthamligdmfhmeaaDoor
open Go.RowKit

theorem Dig.there {w : World} {B n : Nat} {d : List UInt8} (h : Dig w B d) (hn : n = 32) : w.there B 0 n := fun j hj => by
  obtain ⟨c, f⟩ := byts_cell h.1 (i := j) (by rw [h.2]; omega)
  rw [Nat.zero_add]
  exact ⟨by rw [c]; rfl, f⟩
theorem setCells_row {w : World} {B : Nat} {d e : List UInt8} (hd : Dig w B d) (he : e.length = 32) : w.setCells B 0 (List.map (fun b : UInt8 => Value.int .u8 b.toNat) e) = w.setRow B (byts e) := by
  have h1 := run_storeVar_row (P := Tryd.prog) w B 24 24 _ (byts e) hd.1 (byts_size32 he) (by rw [byts_size, byts_size, hd.2, he]) (byts_one _)
  have h2 := run_storeVar_mid (P := Tryd.prog) w B 0 24 (byts e) (hd.there (by rw [byts_size, he])) (byts_size32 he) (byts_one _)
  have h3 := h2.symm.trans h1
  have h4 : w.setCells B 0 (byts e).toList = w.setRow B (byts e) := by injection h3
  exact h4
theorem step_load {ops : Array Oper} {o : Oper} {a : Act} {K : Act → World → Prop} {Q : Exit → Act → World → Prop} {E : Prop} {w : World} (hgd : o.guard = none) (x : Operand) (ho : o.op = .load 24 x)
    (B off : Nat) (cs : List Value) (hx : a.eval x = .pointer (some ⟨B, off, none⟩)) (hc : w.rangeAt B off cs) (hi : (Tryd.prog.info? 24).map (·.size) = some cs.length) (h : K (a.put o.dst (.agg cs.toArray)) w) :
    if Region.wanted o (yielded ops a.tmps) = true then Oper.wp Tryd.prog o a w K Q else E := by
  have hw : Region.wanted o (yielded ops a.tmps) = true := by simp [Region.wanted, hgd]
  rw [if_pos hw]
  unfold Oper.wp execOp
  simp only [ho, hx, Sem.run_bind, run_loadAt_mid (P := Tryd.prog) w B off 24 cs _ hc Tryd.underlying24 rfl hi, Result.andThen_ok]
  exact h
theorem step_store {ops : Array Oper} {o : Oper} {a : Act} {K : Act → World → Prop} {Q : Exit → Act → World → Prop} {E : Prop} {w : World} (hgd : o.guard = none) (x y : Operand) (ho : o.op = .store 24 x y)
    (B : Nat) (cs : Array Value) (hx : a.eval x = .pointer (some ⟨B, 0, none⟩)) (hy : a.eval y = .agg cs) (ht : w.there B 0 cs.size) (hi : (Tryd.prog.info? 24).map (·.size) = some cs.size) (h1 : cs.all (·.oneCell') = true) (h : K (a.put o.dst undef) (w.setCells B 0 cs.toList)) :
    if Region.wanted o (yielded ops a.tmps) = true then Oper.wp Tryd.prog o a w K Q else E := by
  have hw : Region.wanted o (yielded ops a.tmps) = true := by simp [Region.wanted, hgd]
  rw [if_pos hw]
  unfold Oper.wp execOp
  simp only [ho, hx, hy, Sem.run_bind, run_storeAt_mid (P := Tryd.prog) w B 0 24 cs ht hi h1, Result.andThen_ok]
  simpa [go_sem] using h
theorem Dig.load {w : World} {B : Nat} {d : List UInt8} (h : Dig w B d) : (loadCellsFrom ⟨B, 0, none⟩ 0 32 #[]).run Tryd.prog w = .ok (byts d) w :=
  run_get_at B 0 d h.2 fun j hj => by rw [Nat.zero_add]; exact (byts_cell h.1 (by rw [h.2]; exact hj)).1

set_option maxRecDepth 100000 in
set_option maxHeartbeats 4000000 in
theorem climb_left (d : List UInt8) (at_ n : Nat) (a : Option Addr) (p q cap : Nat) (hq : p + 1 = q) (ds : List (List UInt8)) (x : List UInt8) (w : World) (hK : KT w) (hd : d.length = 32) (hp : ds.length = p) (hpc : q ≤ cap) (h2 : 2 ≤ n) (hl : n ≤ 1099511627776) (hk1 : at_ < H.split n) (hpl : p ≤ 1099511627776) (hda : DigsAt w a (ds ++ [x]))
    (ih : ∀ W, Below w.heap.size w W → Calls Tryd.prog 27 #[.agg (byts d), .int .i64 at_, .int .i64 (H.split n : Nat), .slice a p cap] W (ClimbRes d at_ (H.split n) ds W)) :
    Calls Tryd.prog 27 #[.agg (byts d), .int .i64 at_, .int .i64 n, .slice a q cap] w (ClimbRes d at_ n (ds ++ [x]) w) := by
  have hxl : x.length = 32 := hda.1 x (by simp)
  have hres : H.climbR d at_ n (ds ++ [x]).reverse = (H.node (H.climbR d at_ (H.split n) ds.reverse).1 x, (H.climbR d at_ (H.split n) ds.reverse).2) := by
    rw [List.reverse_append]; exact H.climbR_left d at_ n (by omega) x _ hk1
  unfold ClimbRes
  rw [hres]
  clear hres
  have hrl := H.climbR_len d at_ (H.split n) ds.reverse
  have HS := Lib.hid (fun W => split_any n W h2 hl)
  obtain ⟨hb1, hs1, hs2⟩ := H.split_bounds h2 hl
  have IH := Lib.hid ih
  unfold ClimbRes at IH
  clear ih
  obtain ⟨k, hk⟩ : ∃ k, H.split n = k := ⟨_, rfl⟩
  rw [hk] at HS hk1 hrl IH hs1 hs2 ⊢
  obtain ⟨⟨r, ok⟩, hr⟩ : ∃ q, H.climbR d at_ k ds.reverse = q := ⟨_, rfl⟩
  rw [hr] at hrl IH ⊢
  dsimp only at hrl IH ⊢
  obtain ⟨t, ht⟩ : ∃ t, H.node r x = t := ⟨_, rfl⟩
  have htl : t.length = 32 := by rw [← ht]; exact H.node_len _ _
  rw [ht]
  have HT := Lib.hid ht; have HTL := Lib.hid htl; have HRL := Lib.hid hrl; have HXL := Lib.hid hxl; have HDA := Lib.hid hda; have HDL := Lib.hid hd; have HK := Lib.hid hK; have HP := Lib.hid hp
  clear ht htl hrl hxl hda hd hK hp hr hk hb1 hs1 hs2
  have hhead := digs_head a q cap p (by omega) hpc
  have hne : ((n : Int) == 1) = false := by simp; omega
  have hpe : ((q : Int) == 0) = false := by simp; omega
  have hq1 : (q : Int) - 1 = (p : Int) := by omega
  have hlt : (at_ : Int) < (k : Int) := by omega
  go_enter Tryd.func27, Tryd.ntmps27
  go_step
  go_step
  refine wp_region_list ?_
  refine wpl_box rfl 24 _ rfl (byts d) rfl ?_
  refine wpl_cell rfl rfl ?_
  go_step
  go_step
  go_step
  refine wpList_nil ?_
  rename_i K1 hK1
  refine hK1 _ _ ?_
  clear hK1
  have HW := Lib.hid (boxes1 w HDL.out)
  go_simp
  generalize (w.alloc (.cells (byts d) 24)).alloc (.cells (byts zero32) 24) = W1 at HW ⊢
  go_wp2_with (go_at_call 20; (with_reducible refine (HS.out _).mono ?_); rintro e w1 ⟨rfl, rfl⟩)
  have HBd : Hid (Below w.heap.size w W1.drew) := Lib.hid HW.out.1.drew
  obtain ⟨rs, hrs⟩ : ∃ rs, bytes r = rs := ⟨_, rfl⟩
  have hrn : rs.length = 32 := by rw [← hrs, bytes_len, HRL.out]
  have hro : ∀ v, v ∈ rs → v.oneCell' = true := by rw [← hrs]; exact bytes_cells r
  have hra : byts r = rs.toArray := by rw [← hrs]; rfl
  obtain ⟨cd, hcd⟩ : ∃ cd, bytes d = cd := ⟨_, rfl⟩
  have hda2 : byts d = cd.toArray := by rw [← hcd]; rfl
  have hu := Tryd.underlying24
  have hinf : (Tryd.prog.info? 24).map (·.size) = some cd.length := by rw [← hcd, bytes_len, HDL.out]; kernel_rfl
  have hinr : (Tryd.prog.info? 24).map (·.size) = some rs.length := by rw [hrn]; kernel_rfl
  have HRA := Lib.hid hra; have HRS := Lib.hid hrs; have HCD := Lib.hid hcd; have HDA2 := Lib.hid hda2
  clear hra hrs hcd hda2
  have HD1 : Hid (Dig W1.drew w.heap.size d ∧ Dig W1.drew (w.heap.size + 1) zero32) := Lib.hid ⟨HW.out.2.1.kept (Below.refl W1.heap.size W1).drew HW.out.2.1.lt, HW.out.2.2.kept (Below.refl W1.heap.size W1).drew HW.out.2.2.lt⟩
  have HS0 : Hid (W1.drew.rangeAt w.heap.size 0 cd ∧ W1.drew.there (w.heap.size + 1) 0 32) := Lib.hid ⟨by rw [← HCD.out]; exact dig_range HD1.out.1, HD1.out.2.there rfl⟩
  have IH2 : Hid (Calls Tryd.prog 27 #[.agg cd.toArray, .int .i64 at_, .int .i64 k, .slice a p cap] W1.drew fun e w4 => e = .returned (.tuple #[.agg rs.toArray, .bool ok]) ∧ Hid (w4.rangeAt w.heap.size 0 cd ∧ w4.there (w.heap.size + 1) 0 32) ∧ Hid (Below w.heap.size w (w4.setCells (w.heap.size + 1) 0 rs) ∧ Dig (w4.setCells (w.heap.size + 1) 0 rs) (w.heap.size + 1) r)) := Lib.hid (by
    rw [← HDA2.out, ← HRA.out]
    refine (IH.out _ HBd.out).mono ?_
    rintro e w4 ⟨rfl, hb4⟩
    have hd4 := HD1.out.2.kept hb4 HD1.out.2.lt
    refine ⟨rfl, Lib.hid ⟨by rw [← HCD.out]; exact dig_range (HD1.out.1.kept hb4 HD1.out.1.lt), hd4.there rfl⟩, Lib.hid ?_⟩
    rw [← HRS.out, bytes, setCells_row hd4 HRL.out]
    exact ⟨below_setRow (HBd.out.trans (hb4.mono HBd.out.size)) (by omega) _, hd4.set HRL.out⟩)
  refine Code.wp_mono onlyN ?_
  go_region_held3 (fun w' => w'.rangeAt w.heap.size 0 cd ∧ w'.there (w.heap.size + 1) 0 32) (first | (with_reducible exact HS0.out) | (with_reducible exact HS1.out) | exact ⟨World.rangeAt_setCells_apart HS1.out.1 _ _ _ (.inl (by omega)), World.there_setCells HS1.out.2 _ _ _⟩) (first
    | (go_at_call 27; refine IH2.out.mono ?_; rintro e w4 ⟨rfl, HS1, HF⟩))
  simp only [OnlyN]
  generalize w4.setCells (w.heap.size + 1) 0 rs = W5 at HF ⊢
  clear HS0 HS1 IH IH2 HD1 hhead HS hinf
  go_wp2_with fail
  obtain ⟨b, off, ha, hbw, hcx⟩ := HDA.out.elem (i := p) (by rw [List.length_append, HP.out]; simp)
  have hxe : (ds ++ [x])[p]'(by rw [List.length_append, HP.out]; simp) = x := by
    rw [List.getElem_append_right (by rw [HP.out]; exact Nat.le_refl _)]; simp [HP.out]
  rw [hxe] at hcx
  subst ha
  obtain ⟨xs, hxs⟩ : ∃ xs, bytes x = xs := ⟨_, rfl⟩
  obtain ⟨ts, hts⟩ : ∃ ts, bytes t = ts := ⟨_, rfl⟩
  have hxa : byts x = xs.toArray := by rw [← hxs]; rfl
  have hta : byts t = ts.toArray := by rw [← hts]; rfl
  have hinx : (Tryd.prog.info? 24).map (·.size) = some xs.length := by rw [← hxs, bytes_len, HXL.out]; kernel_rfl
  have htn : ts.length = 32 := by rw [← hts, bytes_len, HTL.out]
  have hint : (Tryd.prog.info? 24).map (·.size) = some ts.length := by rw [htn]; kernel_rfl
  have hto : ∀ v, v ∈ ts → v.oneCell' = true := by rw [← hts]; exact bytes_cells t
  have HD5 : Hid (Below w.heap.size w W5.drew ∧ Dig W5.drew (w.heap.size + 1) r) := Lib.hid ⟨HF.out.1.drew, HF.out.2.kept (Below.refl W5.heap.size W5).drew HF.out.2.lt⟩
  have h8 : W5.drew.rangeAt (w.heap.size + 1) 0 rs := by rw [← HRS.out]; exact dig_range HD5.out.2
  have hrx : ∀ V, Below w.heap.size w V → V.rangeAt b (off + p * 32) xs := fun V hV j v hv => by
    rw [← hxs, bytes, List.getElem?_map] at hv
    have hj : j < x.length := by
      rcases Nat.lt_or_ge j x.length with h | h
      · exact h
      · rw [List.getElem?_eq_none h] at hv; simp at hv
    rw [hV.cell (p := ⟨b, off + p * 32 + j, none⟩) hbw, Nat.mul_comm p 32, hcx j (by rw [← HXL.out]; exact hj)]
    rw [List.getElem?_eq_getElem hj] at hv
    simp only [Option.map_some, Option.some.injEq] at hv
    rw [← hv, H.byte]
    simp [hj]
  have hx5 := hrx _ HD5.out.1
  have hint2 : (Tryd.prog.info? 24).map (·.size) = some ts.toArray.size := by simpa using hint
  have hto2 : ts.toArray.all (·.oneCell') = true := by rw [Array.all_eq_true']; simpa using hto
  have IH2 : Hid (Calls Tryd.prog 21 #[.agg rs.toArray, .agg xs.toArray] W5.drew fun e w4 => e = .returned (.agg ts.toArray) ∧ Hid (w4.there (w.heap.size + 1) 0 ts.toArray.size) ∧ Hid (Below w.heap.size w (w4.setCells (w.heap.size + 1) 0 ts) ∧ Dig (w4.setCells (w.heap.size + 1) 0 ts) (w.heap.size + 1) t)) := Lib.hid (by
    rw [← HRA.out, ← hxa, ← hta]
    refine (node_any r x W5.drew (HK.out.kept HD5.out.1 HK.out.pos) HRL.out HXL.out).mono ?_
    rintro e w4 ⟨rfl, hb4⟩
    have hd4 := HD5.out.2.kept hb4 HD5.out.2.lt
    have hw4 := HD5.out.1.trans (hb4.mono HD5.out.1.size)
    refine ⟨by rw [HT.out], Lib.hid (hd4.there (by rw [byts_size, HTL.out])), Lib.hid ?_⟩
    rw [← hts, bytes, setCells_row hd4 HTL.out]
    exact ⟨below_setRow hw4 (by omega) _, hd4.set HTL.out⟩)
  have H8 := Lib.hid (And.intro h8 (And.intro hinr (And.intro hx5 (And.intro hinx (And.intro hint2 hto2)))))
  clear hcx hxe hrx hxs hts hxa hta hbw h8 hinr hro hrn hu hx5 hinx hint hint2 hto hto2 htn
  have hix0 : (0 : Int) ≤ (p : Int) := by omega
  have hix2 : (p : Int) < (q : Int) := by omega
  refine Code.wp_mono onlyN ?_
  refine wp_region_any (by kernel_rfl) ?_
  change wpAny _ _ _ _ _ _ _ (World.drew _)
  refine wpAny_take (i := 1) (v := ?_) rfl (by kernel_rfl) (by kernel_rfl) (by kernel_rfl) (fun _ _ _ h => h) (Or.inl ⟨by rfl, ?_⟩) ?_
  rotate_left
  · intro W'; go_simp; with_reducible rfl
  refine wpAny_take (i := 2) (v := ?_) rfl (by kernel_rfl) (by kernel_rfl) (by kernel_rfl) (fun _ _ _ h => h) (Or.inl ⟨by rfl, ?_⟩) ?_
  rotate_left
  · intro W'; go_simp; with_reducible rfl
  refine wpAny_take (i := 3) (v := ?_) rfl (by kernel_rfl) (by kernel_rfl) (by kernel_rfl) (fun _ _ _ h => h) (Or.inl ⟨by rfl, ?_⟩) ?_
  rotate_left
  · intro W'; go_simp; with_reducible rfl
  refine wpAny_take (i := 6) (v := ?_) rfl (by kernel_rfl) (by kernel_rfl) (by kernel_rfl) (fun _ _ _ h => h) (Or.inl ⟨by rfl, ?_⟩) ?_
  rotate_left
  · intro W'; go_simp; with_reducible rfl
  refine wpAny_ready (rs := [0, 4]) (by kernel_rfl) (by simp) ?_
  refine AllReady.cons rfl (fun K hK => ?_) (AllReady.cons rfl (fun K hK => ?_) AllReady.nil)
  · refine step_load rfl _ (by rfl) (w.heap.size + 1) 0 rs (by rfl) H8.out.1 H8.out.2.1 ?_
    (try go_simp)
    refine hK _ _ ?_
    clear hK K
    refine wpAny_ready (rs := [4]) (by kernel_rfl) (by simp) ?_
    refine AllReady.cons rfl (fun K hK => ?_) AllReady.nil
    refine step_load rfl _ (by rfl) b (off + p * 32) xs (by rfl) H8.out.2.2.1 H8.out.2.2.2.1 ?_
    (try go_simp)
    refine hK _ _ ?_
    clear hK K
    refine wpAny_ready (rs := [5]) (by kernel_rfl) (by simp) ?_
    refine AllReady.cons rfl (fun K hK => ?_) AllReady.nil
    go_simp
    refine IH2.out.mono ?_
    rintro e w4 ⟨rfl, HTH, HG⟩
    refine hK _ _ ?_
    clear hK K
    refine wpAny_ready (rs := [7]) (by kernel_rfl) (by simp) ?_
    refine AllReady.cons rfl (fun K hK => ?_) AllReady.nil
    have hst := @step_store
    refine hst rfl (.tmp 8) (.tmp 46) rfl (w.heap.size + 1) ts.toArray rfl rfl ?_ ?_ ?_ ?_
    · exact HTH.out
    · exact H8.out.2.2.2.2.1
    · exact H8.out.2.2.2.2.2
    clear hst
    (try go_simp)
    refine hK _ _ ?_
    clear hK K
    refine wpAny_ready (rs := [8]) (by kernel_rfl) (by simp) ?_
    refine AllReady.cons rfl (fun K hK => ?_) AllReady.nil
    go_simp
    refine hK _ _ ?_
    clear hK K
    refine wpAny_done (by kernel_rfl) ?_ _
    simp only [OnlyN]
    generalize w4.setCells (w.heap.size + 1) 0 ts = W6 at HG ⊢
    go_wp2_with fail
    refine bodyPost_ret (v := .tuple #[.agg (byts t), .bool ok]) ?_ rfl ⟨rfl, HG.out.1⟩
    exact ret_dig2 Tryd.results27 _ _ (w.heap.size + 1) _ _ rfl rfl HG.out.2
  · refine step_load rfl _ (by rfl) b (off + p * 32) xs (by rfl) H8.out.2.2.1 H8.out.2.2.2.1 ?_
    (try go_simp)
    refine hK _ _ ?_
    clear hK K
    refine wpAny_ready (rs := [0]) (by kernel_rfl) (by simp) ?_
    refine AllReady.cons rfl (fun K hK => ?_) AllReady.nil
    refine step_load rfl _ (by rfl) (w.heap.size + 1) 0 rs (by rfl) H8.out.1 H8.out.2.1 ?_
    (try go_simp)
    refine hK _ _ ?_
    clear hK K
    refine wpAny_ready (rs := [5]) (by kernel_rfl) (by simp) ?_
    refine AllReady.cons rfl (fun K hK => ?_) AllReady.nil
    go_simp
    refine IH2.out.mono ?_
    rintro e w4 ⟨rfl, HTH, HG⟩
    refine hK _ _ ?_
    clear hK K
    refine wpAny_ready (rs := [7]) (by kernel_rfl) (by simp) ?_
    refine AllReady.cons rfl (fun K hK => ?_) AllReady.nil
    have hst := @step_store
    refine hst rfl (.tmp 8) (.tmp 46) rfl (w.heap.size + 1) ts.toArray rfl rfl ?_ ?_ ?_ ?_
    · exact HTH.out
    · exact H8.out.2.2.2.2.1
    · exact H8.out.2.2.2.2.2
    clear hst
    (try go_simp)
    refine hK _ _ ?_
    clear hK K
    refine wpAny_ready (rs := [8]) (by kernel_rfl) (by simp) ?_
    refine AllReady.cons rfl (fun K hK => ?_) AllReady.nil
    go_simp
    refine hK _ _ ?_
    clear hK K
    refine wpAny_done (by kernel_rfl) ?_ _
    simp only [OnlyN]
    generalize w4.setCells (w.heap.size + 1) 0 ts = W6 at HG ⊢
    go_wp2_with fail
    refine bodyPost_ret (v := .tuple #[.agg (byts t), .bool ok]) ?_ rfl ⟨rfl, HG.out.1⟩
    exact ret_dig2 Tryd.results27 _ _ (w.heap.size + 1) _ _ rfl rfl HG.out.2

set_option maxRecDepth 100000 in
set_option maxHeartbeats 4000000 in
theorem climb_right (d : List UInt8) (at_ n : Nat) (a : Option Addr) (p q cap : Nat) (hq : p + 1 = q) (ds : List (List UInt8)) (x : List UInt8) (w : World) (hK : KT w) (hd : d.length = 32) (hp : ds.length = p) (hpc : q ≤ cap) (h2 : 2 ≤ n) (hl : n ≤ 1099511627776) (hk1 : ¬ at_ < H.split n) (hat : at_ < n) (hpl : p ≤ 1099511627776) (hda : DigsAt w a (ds ++ [x]))
    (ih : ∀ W, Below w.heap.size w W → Calls Tryd.prog 27 #[.agg (byts d), .int .i64 (at_ - H.split n : Nat), .int .i64 (n - H.split n : Nat), .slice a p cap] W (ClimbRes d (at_ - H.split n) (n - H.split n) ds W)) :
    Calls Tryd.prog 27 #[.agg (byts d), .int .i64 at_, .int .i64 n, .slice a q cap] w (ClimbRes d at_ n (ds ++ [x]) w) := by
  have hxl : x.length = 32 := hda.1 x (by simp)
  have hres : H.climbR d at_ n (ds ++ [x]).reverse = (H.node x (H.climbR d (at_ - H.split n) (n - H.split n) ds.reverse).1, (H.climbR d (at_ - H.split n) (n - H.split n) ds.reverse).2) := by
    rw [List.reverse_append]; exact H.climbR_right d at_ n (by omega) x _ hk1
  unfold ClimbRes
  rw [hres]
  clear hres
  have hrl := H.climbR_len d (at_ - H.split n) (n - H.split n) ds.reverse
  have HS := Lib.hid (fun W => split_any n W h2 hl)
  obtain ⟨hb1, hs1, hs2⟩ := H.split_bounds h2 hl
  have IH := Lib.hid ih
  unfold ClimbRes at IH
  clear ih
  obtain ⟨k, hk⟩ : ∃ k, H.split n = k := ⟨_, rfl⟩
  rw [hk] at HS hk1 hrl IH hs1 hs2 ⊢
  obtain ⟨⟨r, ok⟩, hr⟩ : ∃ q, H.climbR d (at_ - k) (n - k) ds.reverse = q := ⟨_, rfl⟩
  rw [hr] at hrl IH ⊢
  dsimp only at hrl IH ⊢
  obtain ⟨t, ht⟩ : ∃ t, H.node x r = t := ⟨_, rfl⟩
  have htl : t.length = 32 := by rw [← ht]; exact H.node_len _ _
  rw [ht]
  have HT := Lib.hid ht; have HTL := Lib.hid htl; have HRL := Lib.hid hrl; have HXL := Lib.hid hxl; have HDA := Lib.hid hda; have HDL := Lib.hid hd; have HK := Lib.hid hK; have HP := Lib.hid hp
  clear ht htl hrl hxl hda hd hK hp hr hk hb1 hs2
  have hhead := digs_head a q cap p (by omega) hpc
  have hne : ((n : Int) == 1) = false := by simp; omega
  have hpe : ((q : Int) == 0) = false := by simp; omega
  have hq1 : (q : Int) - 1 = (p : Int) := by omega
  have hlt : ¬ (at_ : Int) < (k : Int) := by omega
  have hwa : IntKind.i64.wrap ((at_ : Int) - (k : Int)) = (at_ : Int) - (k : Int) := by rw [IntKind.wrap_i64]; omega
  have hwn : IntKind.i64.wrap ((n : Int) - (k : Int)) = (n : Int) - (k : Int) := by rw [IntKind.wrap_i64]; omega
  have HSA : Hid (((at_ - k : Nat) : Int) = (at_ : Int) - (k : Int) ∧ ((n - k : Nat) : Int) = (n : Int) - (k : Int)) := Lib.hid ⟨by omega, by omega⟩
  go_enter Tryd.func27, Tryd.ntmps27
  go_step
  go_step
  refine wp_region_list ?_
  refine wpl_box rfl 24 _ rfl (byts d) rfl ?_
  refine wpl_cell rfl rfl ?_
  go_step
  go_step
  go_step
  refine wpList_nil ?_
  rename_i K1 hK1
  refine hK1 _ _ ?_
  clear hK1
  have HW := Lib.hid (boxes1 w HDL.out)
  go_simp
  generalize (w.alloc (.cells (byts d) 24)).alloc (.cells (byts zero32) 24) = W1 at HW ⊢
  go_wp2_with (go_at_call 20; (with_reducible refine (HS.out _).mono ?_); rintro e w1 ⟨rfl, rfl⟩)
  have HBd : Hid (Below w.heap.size w W1.drew) := Lib.hid HW.out.1.drew
  obtain ⟨rs, hrs⟩ : ∃ rs, bytes r = rs := ⟨_, rfl⟩
  have hrn : rs.length = 32 := by rw [← hrs, bytes_len, HRL.out]
  have hro : ∀ v, v ∈ rs → v.oneCell' = true := by rw [← hrs]; exact bytes_cells r
  have hra : byts r = rs.toArray := by rw [← hrs]; rfl
  obtain ⟨cd, hcd⟩ : ∃ cd, bytes d = cd := ⟨_, rfl⟩
  have hda2 : byts d = cd.toArray := by rw [← hcd]; rfl
  have hu := Tryd.underlying24
  have hinf : (Tryd.prog.info? 24).map (·.size) = some cd.length := by rw [← hcd, bytes_len, HDL.out]; kernel_rfl
  have hinr : (Tryd.prog.info? 24).map (·.size) = some rs.length := by rw [hrn]; kernel_rfl
  have HRA := Lib.hid hra; have HRS := Lib.hid hrs; have HCD := Lib.hid hcd; have HDA2 := Lib.hid hda2
  clear hra hrs hcd hda2
  have HD1 : Hid (Dig W1.drew w.heap.size d ∧ Dig W1.drew (w.heap.size + 1) zero32) := Lib.hid ⟨HW.out.2.1.kept (Below.refl W1.heap.size W1).drew HW.out.2.1.lt, HW.out.2.2.kept (Below.refl W1.heap.size W1).drew HW.out.2.2.lt⟩
  have HS0 : Hid (W1.drew.rangeAt w.heap.size 0 cd ∧ W1.drew.there (w.heap.size + 1) 0 32) := Lib.hid ⟨by rw [← HCD.out]; exact dig_range HD1.out.1, HD1.out.2.there rfl⟩
  have IH2 : Hid (Calls Tryd.prog 27 #[.agg cd.toArray, .int .i64 ((at_ : Int) - (k : Int)), .int .i64 ((n : Int) - (k : Int)), .slice a p cap] W1.drew fun e w4 => e = .returned (.tuple #[.agg rs.toArray, .bool ok]) ∧ Hid (w4.rangeAt w.heap.size 0 cd ∧ w4.there (w.heap.size + 1) 0 32) ∧ Hid (Below w.heap.size w (w4.setCells (w.heap.size + 1) 0 rs) ∧ Dig (w4.setCells (w.heap.size + 1) 0 rs) (w.heap.size + 1) r)) := Lib.hid (by
    rw [← HDA2.out, ← HRA.out, ← HSA.out.1, ← HSA.out.2]
    refine (IH.out _ HBd.out).mono ?_
    rintro e w4 ⟨rfl, hb4⟩
    have hd4 := HD1.out.2.kept hb4 HD1.out.2.lt
    refine ⟨rfl, Lib.hid ⟨by rw [← HCD.out]; exact dig_range (HD1.out.1.kept hb4 HD1.out.1.lt), hd4.there rfl⟩, Lib.hid ?_⟩
    rw [← HRS.out, bytes, setCells_row hd4 HRL.out]
    exact ⟨below_setRow (HBd.out.trans (hb4.mono HBd.out.size)) (by omega) _, hd4.set HRL.out⟩)
  refine Code.wp_mono onlyN ?_
  go_region_held3 (fun w' => w'.rangeAt w.heap.size 0 cd ∧ w'.there (w.heap.size + 1) 0 32) (first | (with_reducible exact HS0.out) | (with_reducible exact HS1.out) | exact ⟨World.rangeAt_setCells_apart HS1.out.1 _ _ _ (.inl (by omega)), World.there_setCells HS1.out.2 _ _ _⟩) (first
    | (go_at_call 27; refine IH2.out.mono ?_; rintro e w4 ⟨rfl, HS1, HF⟩))
  simp only [OnlyN]
  generalize w4.setCells (w.heap.size + 1) 0 rs = W5 at HF ⊢
  clear HS0 HS1 IH IH2 HD1 hhead HS hinf
  go_wp2_with fail
  obtain ⟨b, off, ha, hbw, hcx⟩ := HDA.out.elem (i := p) (by rw [List.length_append, HP.out]; simp)
  have hxe : (ds ++ [x])[p]'(by rw [List.length_append, HP.out]; simp) = x := by
    rw [List.getElem_append_right (by rw [HP.out]; exact Nat.le_refl _)]; simp [HP.out]
  rw [hxe] at hcx
  subst ha
  obtain ⟨xs, hxs⟩ : ∃ xs, bytes x = xs := ⟨_, rfl⟩
  obtain ⟨ts, hts⟩ : ∃ ts, bytes t = ts := ⟨_, rfl⟩
  have hxa : byts x = xs.toArray := by rw [← hxs]; rfl
  have hta : byts t = ts.toArray := by rw [← hts]; rfl
  have hinx : (Tryd.prog.info? 24).map (·.size) = some xs.length := by rw [← hxs, bytes_len, HXL.out]; kernel_rfl
  have htn : ts.length = 32 := by rw [← hts, bytes_len, HTL.out]
  have hint : (Tryd.prog.info? 24).map (·.size) = some ts.length := by rw [htn]; kernel_rfl
  have hto : ∀ v, v ∈ ts → v.oneCell' = true := by rw [← hts]; exact bytes_cells t
  have HD5 : Hid (Below w.heap.size w W5.drew ∧ Dig W5.drew (w.heap.size + 1) r) := Lib.hid ⟨HF.out.1.drew, HF.out.2.kept (Below.refl W5.heap.size W5).drew HF.out.2.lt⟩
  have h8 : W5.drew.rangeAt (w.heap.size + 1) 0 rs := by rw [← HRS.out]; exact dig_range HD5.out.2
  have hrx : ∀ V, Below w.heap.size w V → V.rangeAt b (off + p * 32) xs := fun V hV j v hv => by
    rw [← hxs, bytes, List.getElem?_map] at hv
    have hj : j < x.length := by
      rcases Nat.lt_or_ge j x.length with h | h
      · exact h
      · rw [List.getElem?_eq_none h] at hv; simp at hv
    rw [hV.cell (p := ⟨b, off + p * 32 + j, none⟩) hbw, Nat.mul_comm p 32, hcx j (by rw [← HXL.out]; exact hj)]
    rw [List.getElem?_eq_getElem hj] at hv
    simp only [Option.map_some, Option.some.injEq] at hv
    rw [← hv, H.byte]
    simp [hj]
  have hx5 := hrx _ HD5.out.1
  have hint2 : (Tryd.prog.info? 24).map (·.size) = some ts.toArray.size := by simpa using hint
  have hto2 : ts.toArray.all (·.oneCell') = true := by rw [Array.all_eq_true']; simpa using hto
  have IH2 : Hid (Calls Tryd.prog 21 #[.agg xs.toArray, .agg rs.toArray] W5.drew fun e w4 => e = .returned (.agg ts.toArray) ∧ Hid (w4.there (w.heap.size + 1) 0 ts.toArray.size) ∧ Hid (Below w.heap.size w (w4.setCells (w.heap.size + 1) 0 ts) ∧ Dig (w4.setCells (w.heap.size + 1) 0 ts) (w.heap.size + 1) t)) := Lib.hid (by
    rw [← HRA.out, ← hxa, ← hta]
    refine (node_any x r W5.drew (HK.out.kept HD5.out.1 HK.out.pos) HXL.out HRL.out).mono ?_
    rintro e w4 ⟨rfl, hb4⟩
    have hd4 := HD5.out.2.kept hb4 HD5.out.2.lt
    have hw4 := HD5.out.1.trans (hb4.mono HD5.out.1.size)
    refine ⟨by rw [HT.out], Lib.hid (hd4.there (by rw [byts_size, HTL.out])), Lib.hid ?_⟩
    rw [← hts, bytes, setCells_row hd4 HTL.out]
    exact ⟨below_setRow hw4 (by omega) _, hd4.set HTL.out⟩)
  have H8 := Lib.hid (And.intro h8 (And.intro hinr (And.intro hx5 (And.intro hinx (And.intro hint2 hto2)))))
  clear hcx hxe hrx hxs hts hxa hta hbw h8 hinr hro hrn hu hx5 hinx hint hint2 hto hto2 htn
  have hix0 : (0 : Int) ≤ (p : Int) := by omega
  have hix2 : (p : Int) < (q : Int) := by omega
  refine Code.wp_mono onlyN ?_
  refine wp_region_any (by kernel_rfl) ?_
  change wpAny _ _ _ _ _ _ _ (World.drew _)
  refine wpAny_take (i := 0) (v := ?_) rfl (by kernel_rfl) (by kernel_rfl) (by kernel_rfl) (fun _ _ _ h => h) (Or.inl ⟨by rfl, ?_⟩) ?_
  rotate_left
  · intro W'; go_simp; with_reducible rfl
  refine wpAny_take (i := 1) (v := ?_) rfl (by kernel_rfl) (by kernel_rfl) (by kernel_rfl) (fun _ _ _ h => h) (Or.inl ⟨by rfl, ?_⟩) ?_
  rotate_left
  · intro W'; go_simp; with_reducible rfl
  refine wpAny_take (i := 2) (v := ?_) rfl (by kernel_rfl) (by kernel_rfl) (by kernel_rfl) (fun _ _ _ h => h) (Or.inl ⟨by rfl, ?_⟩) ?_
  rotate_left
  · intro W'; go_simp; with_reducible rfl
  refine wpAny_take (i := 6) (v := ?_) rfl (by kernel_rfl) (by kernel_rfl) (by kernel_rfl) (fun _ _ _ h => h) (Or.inl ⟨by rfl, ?_⟩) ?_
  rotate_left
  · intro W'; go_simp; with_reducible rfl
  refine wpAny_ready (rs := [3, 4]) (by kernel_rfl) (by simp) ?_
  refine AllReady.cons rfl (fun K hK => ?_) (AllReady.cons rfl (fun K hK => ?_) AllReady.nil)
  · refine step_load rfl _ (by rfl) b (off + p * 32) xs (by rfl) H8.out.2.2.1 H8.out.2.2.2.1 ?_
    (try go_simp)
    refine hK _ _ ?_
    clear hK K
    refine wpAny_ready (rs := [4]) (by kernel_rfl) (by simp) ?_
    refine AllReady.cons rfl (fun K hK => ?_) AllReady.nil
    refine step_load rfl _ (by rfl) (w.heap.size + 1) 0 rs (by rfl) H8.out.1 H8.out.2.1 ?_
    (try go_simp)
    refine hK _ _ ?_
    clear hK K
    refine wpAny_ready (rs := [5]) (by kernel_rfl) (by simp) ?_
    refine AllReady.cons rfl (fun K hK => ?_) AllReady.nil
    go_simp
    refine IH2.out.mono ?_
    rintro e w4 ⟨rfl, HTH, HG⟩
    refine hK _ _ ?_
    clear hK K
    refine wpAny_ready (rs := [7]) (by kernel_rfl) (by simp) ?_
    refine AllReady.cons rfl (fun K hK => ?_) AllReady.nil
    have hst := @step_store
    refine hst rfl (.tmp 8) (.tmp 67) rfl (w.heap.size + 1) ts.toArray rfl rfl ?_ ?_ ?_ ?_
    · exact HTH.out
    · exact H8.out.2.2.2.2.1
    · exact H8.out.2.2.2.2.2
    clear hst
    (try go_simp)
    refine hK _ _ ?_
    clear hK K
    refine wpAny_ready (rs := [8]) (by kernel_rfl) (by simp) ?_
    refine AllReady.cons rfl (fun K hK => ?_) AllReady.nil
    go_simp
    refine hK _ _ ?_
    clear hK K
    refine wpAny_done (by kernel_rfl) ?_ _
    simp only [OnlyN]
    generalize w4.setCells (w.heap.size + 1) 0 ts = W6 at HG ⊢
    go_wp2_with fail
    refine bodyPost_ret (v := .tuple #[.agg (byts t), .bool ok]) ?_ rfl ⟨rfl, HG.out.1⟩
    exact ret_dig2 Tryd.results27 _ _ (w.heap.size + 1) _ _ rfl rfl HG.out.2
  · refine step_load rfl _ (by rfl) (w.heap.size + 1) 0 rs (by rfl) H8.out.1 H8.out.2.1 ?_
    (try go_simp)
    refine hK _ _ ?_
    clear hK K
    refine wpAny_ready (rs := [3]) (by kernel_rfl) (by simp) ?_
    refine AllReady.cons rfl (fun K hK => ?_) AllReady.nil
    refine step_load rfl _ (by rfl) b (off + p * 32) xs (by rfl) H8.out.2.2.1 H8.out.2.2.2.1 ?_
    (try go_simp)
    refine hK _ _ ?_
    clear hK K
    refine wpAny_ready (rs := [5]) (by kernel_rfl) (by simp) ?_
    refine AllReady.cons rfl (fun K hK => ?_) AllReady.nil
    go_simp
    refine IH2.out.mono ?_
    rintro e w4 ⟨rfl, HTH, HG⟩
    refine hK _ _ ?_
    clear hK K
    refine wpAny_ready (rs := [7]) (by kernel_rfl) (by simp) ?_
    refine AllReady.cons rfl (fun K hK => ?_) AllReady.nil
    have hst := @step_store
    refine hst rfl (.tmp 8) (.tmp 67) rfl (w.heap.size + 1) ts.toArray rfl rfl ?_ ?_ ?_ ?_
    · exact HTH.out
    · exact H8.out.2.2.2.2.1
    · exact H8.out.2.2.2.2.2
    clear hst
    (try go_simp)
    refine hK _ _ ?_
    clear hK K
    refine wpAny_ready (rs := [8]) (by kernel_rfl) (by simp) ?_
    refine AllReady.cons rfl (fun K hK => ?_) AllReady.nil
    go_simp
    refine hK _ _ ?_
    clear hK K
    refine wpAny_done (by kernel_rfl) ?_ _
    simp only [OnlyN]
    generalize w4.setCells (w.heap.size + 1) 0 ts = W6 at HG ⊢
    go_wp2_with fail
    refine bodyPost_ret (v := .tuple #[.agg (byts t), .bool ok]) ?_ rfl ⟨rfl, HG.out.1⟩
    exact ret_dig2 Tryd.results27 _ _ (w.heap.size + 1) _ _ rfl rfl HG.out.2

end Go.Proofs.YthamligdmfhmeaaDoor
