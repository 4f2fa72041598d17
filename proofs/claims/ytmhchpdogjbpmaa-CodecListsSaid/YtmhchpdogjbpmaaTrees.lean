/- The plain mathematics of layer 1: trees that are written are read back, and those that are read are written back. Nothing here speaks of the program. -/
import Derived.Test.YtmhchpdogjbpmaaBack
import Derived.Laws.Strings
namespace Go.Proofs.Ytmhchpdogjbpmaa
namespace M

theorem empty_list : (⟨#[]⟩ : ByteArray).toList = [] := by decide +kernel

/-- A tree as the reader builds it. -/
def norm : (d : Nat) → T d → (e : Nat) → T (e + 1)
  | 0, t, _ => t.elim
  | d + 1, (k, n, s, l), e => if k = 1 then (1, n, ⟨#[]⟩, []) else if k = 2 then (2, 0, s, []) else (3, 0, ⟨#[]⟩, match e with
    | 0 => []
    | e + 1 => l.map fun x => norm d x e)

/-- The numbers of a tree fit an int; its lengths fit 64 bits. -/
def fits : (d : Nat) → T d → Prop
  | 0, _ => True
  | d + 1, (_, n, s, l) => (-9223372036854775808 ≤ n ∧ n ≤ 9223372036854775807) ∧ s.size < 18446744073709551616 ∧ l.length < 18446744073709551616 ∧ ∀ x ∈ l, fits d x

theorem height_le : ∀ (d : Nat) (t : T d), height d t ≤ d
  | 0, _ => Nat.le_refl _
  | d + 1, (k, n, s, l) => by
    have : ∀ (l : List (T d)), lmax (l.map (height d)) ≤ d := by
      intro l
      induction l with
      | nil => simp [lmax]
      | cons x xs ih => rw [List.map_cons, lmax_cons]; have := height_le d x; omega
    have := this l
    simp only [height]; omega

theorem rdMany_map {α β : Type} (f : List UInt8 → Option (β × List UInt8)) (g : α → β) (en : α → List UInt8) : ∀ (l : List α) (r : List UInt8), (∀ x ∈ l, ∀ r, f (en x ++ r) = some (g x, r)) →
    rdMany f l.length ((l.map en).flatten ++ r) = some (l.map g, r)
  | [], r, _ => by simp [rdMany]
  | x :: xs, r, h => by
    rw [List.length_cons, rdMany_succ, List.map_cons, List.flatten_cons, List.append_assoc, h x (List.mem_cons_self ..)]
    simp only [Option.bind_some]
    rw [rdMany_map f g en xs r (fun y hy => h y (List.mem_cons_of_mem _ hy))]
    simp

theorem rdVal_int (deep : Nat) (r : List UInt8) : rdVal deep (1 :: r) = (rdNum 0 0 r).map fun p => ((1, sig p.1, ⟨#[]⟩, []), p.2) := by
  have : rdVal deep (1 :: r) = (match rdNum 0 0 r with
    | none => none
    | some (u, r') => some ((1, sig u, ⟨#[]⟩, []), r')) := by cases deep <;> rfl
  rw [this]; cases rdNum 0 0 r <;> rfl
theorem rdVal_text (deep : Nat) (r : List UInt8) : rdVal deep (2 :: r) = (rdNum 0 0 r).bind fun p => if p.1 ≤ p.2.length then some ((2, 0, ⟨(p.2.take p.1).toArray⟩, []), p.2.drop p.1) else none := by
  have : rdVal deep (2 :: r) = (match rdNum 0 0 r with
    | none => none
    | some (n, r') => if n ≤ r'.length then some ((2, 0, ⟨(r'.take n).toArray⟩, []), r'.drop n) else none) := by cases deep <;> rfl
  rw [this]; cases rdNum 0 0 r <;> rfl
theorem rdVal_list (e : Nat) (r : List UInt8) : rdVal (e + 1) (3 :: r) = (rdNum 0 0 r).bind fun p => (rdMany (rdVal e) p.1 p.2).map fun q => ((3, 0, ⟨#[]⟩, q.1), q.2) := by
  rw [rdVal, rdWith, if_neg (by decide), if_neg (by decide), if_pos rfl, rdList]
  cases rdNum 0 0 r with
  | none => rfl
  | some p =>
    simp only [Option.bind_some]
    cases rdMany (rdVal e) p.1 p.2 <;> rfl

theorem formed_kind {d : Nat} {k n : Int} {s : ByteArray} {l : List (T d)} (h : formed (d + 1) (k, n, s, l) = true) : (k = 1 ∧ s.toList = [] ∧ l = []) ∨ (k = 2 ∧ n = 0 ∧ l = []) ∨ (k = 3 ∧ n = 0 ∧ s.toList = [] ∧ l.all (formed d) = true) := by
  simp only [formed, Bool.or_eq_true, Bool.and_eq_true, beq_iff_eq, List.isEmpty_iff] at h
  rcases h with (h | h) | h
  · exact .inl ⟨h.1.1, h.1.2, h.2⟩
  · exact .inr (.inl ⟨h.1.1, h.1.2, h.2⟩)
  · exact .inr (.inr ⟨h.1.1.1, h.1.1.2, h.1.2, h.2⟩)

theorem depth_child {d : Nat} {n : Int} {s : ByteArray} {l : List (T d)} {x : T d} (hx : x ∈ l) : depth d x + 1 ≤ depth (d + 1) (3, n, s, l) := by
  have : depth d x ≤ lmax (l.map (depth d)) := le_lmax (List.mem_map.2 ⟨x, hx, rfl⟩)
  simp only [depth, if_true]; omega

/-- What was written is read back. -/
theorem rdVal_enc : ∀ (d : Nat) (t : T d) (deep : Nat) (r : List UInt8), formed d t = true → depth d t ≤ deep → fits d t → rdVal deep (enc d t ++ r) = some (norm d t deep, r)
  | 0, t, _, _, _, _, _ => t.elim
  | d + 1, (k, n, s, l), deep, r, hf, hd, hfit => by
    obtain ⟨hn, hs, hl, hx⟩ := hfit
    rcases formed_kind hf with ⟨rfl, _, rfl⟩ | ⟨rfl, rfl, rfl⟩ | ⟨rfl, rfl, _, hall⟩
    · have hu := unsig_bd n hn.1 hn.2
      have e : enc (d + 1) (1, n, s, ([] : List (T d))) = 1 :: num (unsig n).toNat := by simp [enc]
      rw [e, List.cons_append, rdVal_int, rdNum_back _ _ (by omega)]
      simp only [Option.map_some, norm]
      rw [show ((unsig n).toNat : Int) = unsig n from by omega, sig_unsig]
      cases deep <;> rfl
    · have e : enc (d + 1) (2, 0, s, ([] : List (T d))) = 2 :: (num s.size ++ s.data.toList) := by simp [enc]
      have hss : s.data.toList.length = s.size := by simp
      rw [e, List.cons_append, List.append_assoc, rdVal_text, rdNum_back _ _ hs]
      simp only [Option.bind_some]
      rw [if_pos (by rw [List.length_append, hss]; omega), List.take_left' hss, List.drop_left' hss]
      have : (⟨s.data.toList.toArray⟩ : ByteArray) = s := by simp
      rw [this]
      cases deep <;> (simp [norm]; rfl)
    · cases deep with
      | zero => simp [depth] at hd
      | succ e =>
        have en : enc (d + 1) (3, 0, s, l) = 3 :: (num l.length ++ (l.map (enc d)).flatten) := by simp [enc]
        rw [en, List.cons_append, List.append_assoc, rdVal_list, rdNum_back _ _ hl]
        simp only [Option.bind_some]
        rw [rdMany_map (rdVal e) (fun x => norm d x e) (enc d) l r (fun x hxl r => rdVal_enc d x e r (List.all_eq_true.1 hall x hxl) (by have := depth_child (n := 0) (s := s) hxl; omega) (hx x hxl))]
        simp [norm]; rfl

theorem rdMany_inv {α : Type} (f : List UInt8 → Option (α × List UInt8)) (p : α → Prop) (en : α → List UInt8) (h : ∀ bs x r, f bs = some (x, r) → p x ∧ bs = en x ++ r) : ∀ (n : Nat) (bs : List UInt8) (l : List α) (r : List UInt8), rdMany f n bs = some (l, r) →
    l.length = n ∧ (∀ x ∈ l, p x) ∧ bs = (l.map en).flatten ++ r
  | 0, bs, l, r, hh => by simp [rdMany] at hh; obtain ⟨rfl, rfl⟩ := hh; simp
  | n + 1, bs, l, r, hh => by
    rw [rdMany_succ] at hh
    obtain ⟨⟨x, r1⟩, h1, h2⟩ := Option.bind_eq_some_iff.1 hh
    obtain ⟨⟨l1, r2⟩, h3, h4⟩ := Option.map_eq_some_iff.1 h2
    simp only [Prod.mk.injEq] at h4
    obtain ⟨rfl, rfl⟩ := h4
    obtain ⟨hp, rfl⟩ := h bs x r1 h1
    obtain ⟨hl, hp2, rfl⟩ := rdMany_inv f p en h n _ _ _ h3
    refine ⟨by simp [hl], ?_, by simp⟩
    intro y hy
    rcases List.mem_cons.1 hy with rfl | hy
    · exact hp
    · exact hp2 y hy

theorem lmax_depth_le {d : Nat} {l : List (T d)} {e : Nat} (h : ∀ x ∈ l, depth d x ≤ e) : lmax (l.map (depth d)) ≤ e := by
  induction l with
  | nil => simp [lmax]
  | cons x xs ih => rw [List.map_cons, lmax_cons]; have := h x (List.mem_cons_self ..); have := ih (fun y hy => h y (List.mem_cons_of_mem _ hy)); omega

/-- What was read is well-formed, not too deep, and written back. -/
theorem enc_rdVal : ∀ (deep : Nat) (bs : List UInt8) (t : T (deep + 1)) (r : List UInt8), rdVal deep bs = some (t, r) → (formed (deep + 1) t = true ∧ depth (deep + 1) t ≤ deep) ∧ bs = enc (deep + 1) t ++ r
  | deep, [], t, r, h => by cases deep <;> simp [rdVal, rdWith] at h
  | deep, c :: bs, t, r, h => by
    by_cases h1 : c = 1
    · subst h1
      rw [rdVal_int] at h
      obtain ⟨⟨u, r1⟩, h2, h3⟩ := Option.map_eq_some_iff.1 h
      obtain ⟨rfl, rfl⟩ := Prod.mk.inj h3
      obtain ⟨hu, rfl⟩ := rdNum_fore h2
      have e : (unsig (sig (u : Int))).toNat = u := by rw [unsig_sig _ (by omega)]; omega
      refine ⟨⟨by simp [formed], by simp [depth]⟩, ?_⟩
      simp only [enc, if_true]
      rw [e]; simp
    · by_cases h2 : c = 2
      · subst h2
        rw [rdVal_text] at h
        obtain ⟨⟨n, r1⟩, h3, h4⟩ := Option.bind_eq_some_iff.1 h
        split at h4
        · rename_i hn
          obtain ⟨rfl, rfl⟩ := Prod.mk.inj (Option.some.inj h4)
          have hn' : n ≤ r1.length := hn
          obtain ⟨hu, rfl⟩ := rdNum_fore h3
          have hs : (⟨(r1.take n).toArray⟩ : ByteArray).size = n := by show (r1.take n).toArray.size = n; simp; omega
          refine ⟨⟨by simp [formed], by simp [depth]⟩, ?_⟩
          simp only [enc, show ¬ ((2 : Int) = 1) from by decide, if_false, if_true]
          rw [hs]; simp
        · simp at h4
      · by_cases h3 : c = 3
        · subst h3
          cases deep with
          | zero => simp [rdVal, rdWith] at h
          | succ e =>
            rw [rdVal_list] at h
            obtain ⟨⟨n, r1⟩, h4, h5⟩ := Option.bind_eq_some_iff.1 h
            obtain ⟨⟨l, r2⟩, h6, h7⟩ := Option.map_eq_some_iff.1 h5
            obtain ⟨rfl, rfl⟩ := Prod.mk.inj h7
            obtain ⟨hu, rfl⟩ := rdNum_fore h4
            obtain ⟨hl, hp, h8⟩ := rdMany_inv (rdVal e) (fun x => formed (e + 1) x = true ∧ depth (e + 1) x ≤ e) (enc (e + 1)) (fun bs x r h => enc_rdVal e bs x r h) n r1 l r2 h6
            have hd := lmax_depth_le (fun x hx => (hp x hx).2)
            have hall : l.all (formed (e + 1)) = true := List.all_eq_true.2 (fun x hx => (hp x hx).1)
            refine ⟨⟨?_, ?_⟩, ?_⟩
            · rw [formed, hall]; simp
            · simp only [depth, if_true]; omega
            · simp only [enc, show ¬ ((3 : Int) = 1) from by decide, show ¬ ((3 : Int) = 2) from by decide, if_false]
              rw [hl]
              rw [h8]; simp
        · exfalso
          cases deep <;> simp [rdVal, rdWith, h1, h2, h3] at h

theorem all2_map {α β : Type} (f : α → β → Bool) (g : α → β) : ∀ (l : List α), (∀ x ∈ l, f x (g x) = true) → all2 f l (l.map g) = true
  | [], _ => rfl
  | x :: l, h => by
    rw [List.map_cons, all2, h x (List.mem_cons_self ..), all2_map f g l (fun y hy => h y (List.mem_cons_of_mem _ hy))]; rfl

theorem same_eq {d e : Nat} (k n : Int) (s : ByteArray) (l : List (T d)) (k' n' : Int) (s' : ByteArray) (l' : List (T e)) :
    same (d + 1) (k, n, s, l) (e + 1) (k', n', s', l') = (k == k' && n == n' && s.toList == s'.toList && all2 (fun x y => same d x e y) l l') := rfl

/-- What is read back is the same value. -/
theorem same_norm : ∀ (d : Nat) (t : T d) (deep : Nat), formed d t = true → depth d t ≤ deep → same d t (deep + 1) (norm d t deep) = true
  | 0, t, _, _, _ => t.elim
  | d + 1, (k, n, s, l), deep, hf, hd => by
    rcases formed_kind hf with ⟨rfl, hs, rfl⟩ | ⟨rfl, rfl, rfl⟩ | ⟨rfl, rfl, hs, hall⟩
    · have : norm (d + 1) (1, n, s, ([] : List (T d))) deep = (1, n, ⟨#[]⟩, []) := by cases deep <;> rfl
      rw [this, same_eq, hs, empty_list]; simp [all2]
    · have : norm (d + 1) (2, 0, s, ([] : List (T d))) deep = (2, 0, s, []) := by cases deep <;> rfl
      rw [this, same_eq]; simp [all2]
    · cases deep with
      | zero => simp [depth] at hd
      | succ e =>
        have : norm (d + 1) (3, 0, s, l) (e + 1) = (3, 0, ⟨#[]⟩, l.map fun x => norm d x e) := rfl
        rw [this, same_eq, hs, empty_list, all2_map _ _ l (fun x hx => same_norm d x e (List.all_eq_true.1 hall x hx) (by have := depth_child (n := 0) (s := s) hx; omega))]
        rfl

theorem all2_trans {α β γ : Type} (f : α → β → Bool) (g : γ → β → Bool) (h : α → γ → Bool) : ∀ (l : List α) (m : List β) (q : List γ), (∀ x ∈ l, ∀ y z, f x y = true → g z y = true → h x z = true) → all2 f l m = true → all2 g q m = true → all2 h l q = true
  | [], [], [], _, _, _ => rfl
  | [], [], z :: q, _, _, h2 => by simp [all2] at h2
  | [], y :: m, _, _, h1, _ => by simp [all2] at h1
  | x :: l, [], _, _, h1, _ => by simp [all2] at h1
  | x :: l, y :: m, [], _, _, h2 => by simp [all2] at h2
  | x :: l, y :: m, z :: q, hh, h1, h2 => by
    simp only [all2, Bool.and_eq_true] at h1 h2 ⊢
    exact ⟨hh x (List.mem_cons_self ..) y z h1.1 h2.1, all2_trans f g h l m q (fun x hx => hh x (List.mem_cons_of_mem _ hx)) h1.2 h2.2⟩

/-- Two values that are the same as a third one are the same. -/
theorem same_join : ∀ (d : Nat) (t : T d) (e : Nat) (u : T e) (f : Nat) (x : T f), same d t f x = true → same e u f x = true → same d t e u = true
  | 0, t, _, _, _, _, _, _ => t.elim
  | _ + 1, _, 0, u, _, _, _, _ => u.elim
  | _ + 1, _, _ + 1, _, 0, x, _, _ => x.elim
  | d + 1, (k, n, s, l), e + 1, (k', n', s', l'), f + 1, (k2, n2, s2, l2), h1, h2 => by
    rw [same_eq] at h1 h2 ⊢
    simp only [Bool.and_eq_true, beq_iff_eq] at h1 h2 ⊢
    obtain ⟨⟨⟨a1, a2⟩, a3⟩, a4⟩ := h1
    obtain ⟨⟨⟨b1, b2⟩, b3⟩, b4⟩ := h2
    exact ⟨⟨⟨a1.trans b1.symm, a2.trans b2.symm⟩, a3.trans b3.symm⟩, all2_trans _ _ _ l l2 l' (fun x _ y z hx hy => same_join d x e z f y hx hy) a4 b4⟩

theorem toList_inj {s s' : ByteArray} (h : s.toList = s'.toList) : s.data.toList = s'.data.toList := by rwa [ByteArray.toList_eq, ByteArray.toList_eq] at h

theorem enc_all2 {α β : Type} (f : α → β → Bool) (en : α → List UInt8) (en' : β → List UInt8) : ∀ (l : List α) (m : List β), (∀ x ∈ l, ∀ y, f x y = true → en x = en' y) → all2 f l m = true → (l.map en).flatten = (m.map en').flatten
  | [], [], _, _ => rfl
  | [], y :: m, _, h1 => by simp [all2] at h1
  | x :: l, [], _, h1 => by simp [all2] at h1
  | x :: l, y :: m, hh, h1 => by
    simp only [all2, Bool.and_eq_true] at h1
    rw [List.map_cons, List.map_cons, List.flatten_cons, List.flatten_cons, hh x (List.mem_cons_self ..) y h1.1, enc_all2 f en en' l m (fun x hx => hh x (List.mem_cons_of_mem _ hx)) h1.2]

/-- The same values have the same encoding. -/
theorem enc_same : ∀ (d : Nat) (t : T d) (e : Nat) (u : T e), same d t e u = true → enc d t = enc e u
  | 0, t, _, _, _ => t.elim
  | _ + 1, _, 0, u, _ => u.elim
  | d + 1, (k, n, s, l), e + 1, (k', n', s', l'), h => by
    rw [same_eq] at h
    simp only [Bool.and_eq_true, beq_iff_eq] at h
    obtain ⟨⟨⟨rfl, rfl⟩, hs⟩, hl⟩ := h
    have hd := toList_inj hs
    have hsz : s.size = s'.size := by
      have := congrArg List.length hd; simpa using this
    have hll := ((all2_iff _ l l').1 hl).1
    have hfl := enc_all2 _ (enc d) (enc e) l l' (fun x _ y hx => enc_same d x e y hx) hl
    simp only [enc]
    rw [hsz, hd, hll, hfl]

/-- Where one encoding begins another one, the values are the same. -/
theorem same_of_prefix {d e : Nat} {t : T d} {u : T e} (hf : formed d t = true) (hd : depth d t ≤ 16) (ht : fits d t) (hf' : formed e u = true) (hd' : depth e u ≤ 16) (hu : fits e u) {r : List UInt8} (h : enc d t ++ r = enc e u) : same d t e u = true := by
  have h1 := rdVal_enc d t 16 r hf hd ht
  have h2 := rdVal_enc e u 16 [] hf' hd' hu
  rw [h, ← List.append_nil (enc e u), h2] at h1
  have h3 := (Prod.mk.inj (Option.some.inj h1)).1
  have s1 := same_norm d t 16 hf hd
  have s2 := same_norm e u 16 hf' hd'
  rw [h3] at s2
  exact same_join d t e u 17 _ s1 s2

theorem check_zero {d : Nat} {t : T d} (h : check d t = 0) : formed d t = true ∧ depth d t ≤ 16 := by
  unfold check at h
  split at h
  · rename_i hf
    split at h
    · omega
    · exact ⟨hf, by omega⟩
  · omega
theorem check_of {d : Nat} {t : T d} (hf : formed d t = true) (hd : depth d t ≤ 16) : check d t = 0 := by
  unfold check; rw [if_pos hf, if_neg (by omega)]

end M
end Go.Proofs.Ytmhchpdogjbpmaa
