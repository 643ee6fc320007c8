/- Own work: PyZ7. -/
import Derived.Test.YtmolmbeeoecnfaaGreatDoorF19
/- Own work: the shape of what the program's reader has read. -/
namespace Go.Proofs.YtmolmbeeoecnfaaGreatDoor
open Go.RowKit Go.BigFrame
set_option linter.unusedVariables false
set_option linter.unusedSimpArgs false

structure StK (s : ByteArray) (n k : Nat) (x : StP) : Prop where
 e1 : k < x.end_
 e2 : x.end_ ≤ n
 o1 : -1 ≤ x.outer
 o2 : x.outer < k
 kd : x.kind ≠ 0 → k + 1 < x.end_
 en : x.enter.size ≤ s.size
 le : x.leave.size ≤ s.size
 nm : isN x.name = true
 rm : x.rem = false
theorem StK.mono {s : ByteArray} {n m k : Nat} {x : StP} (h : StK s n k x) (hn : n ≤ m) : StK s m k x := ⟨h.e1, Nat.le_trans h.e2 hn, h.o1, h.o2, h.kd, h.en, h.le, h.nm, h.rm⟩
structure Shp (s : ByteArray) (r q : Rn) : Prop where
 pre : r.st <+: q.st
 each : ∀ (k : Nat) (x : StP), r.st.length ≤ k → q.st[k]? = some x → StK s q.st.length k x
 trs : ∀ t ∈ q.tr, t ∈ r.tr ∨ (t.own < q.st.length ∧ t.acts.size ≤ s.size)
theorem Shp.refl (s : ByteArray) (r : Rn) : Shp s r r := ⟨List.prefix_refl _, fun k x h hx => by have := (List.getElem?_eq_some_iff.1 hx).1; omega, fun t ht => Or.inl ht⟩
theorem pre_get {α : Type} {l m : List α} (h : l <+: m) {k : Nat} (hk : k < l.length) : m[k]? = l[k]? := by
 obtain ⟨t, rfl⟩ := h
 exact List.getElem?_append_left hk
theorem Shp.trans {s : ByteArray} {r q z : Rn} (h : Shp s r q) (g : Shp s q z) : Shp s r z where
 pre := h.pre.trans g.pre
 each := fun k x hk hx => by
  by_cases hq : k < q.st.length
  ·rw [pre_get g.pre hq] at hx
   exact (h.each k x hk hx).mono g.pre.length_le
  ·exact g.each k x (by omega) hx
 trs := fun t ht => by
  rcases g.trs t ht with h1 | h1
  ·rcases h.trs t h1 with h2 | h2
   ·exact Or.inl h2
   ·exact Or.inr ⟨Nat.lt_of_lt_of_le h2.1 g.pre.length_le, h2.2⟩
  ·exact Or.inr h1
theorem cut_le (s : ByteArray) (i j : Nat) : (cut s i j).size ≤ s.size := by
 show ((s.data.toList.drop i).take (j - i)).toArray.size ≤ _
 rw [List.size_toArray, List.length_take, List.length_drop]
 have : s.data.toList.length = s.size := rfl
 omega
theorem abS_le (s : ByteArray) (sg : UInt8) (i : Nat) : (abS s sg i).size ≤ s.size := by
 unfold abS; split
 ·exact cut_le _ _ _
 ·exact Nat.zero_le _
theorem rtP_own (s : ByteArray) (own i : Nat) (h : (rtP s own i).1 = true) : (rtP s own i).2.2.own = own ∧ (rtP s own i).2.2.acts.size ≤ s.size := by
 unfold rtP at h ⊢
 simp only at h ⊢
 split at h
 ·cases h
 ·rw [if_neg ‹_›]
  split at h
  ·cases h
  ·rw [if_neg ‹_›]
   split at h
   ·cases h
   ·rw [if_neg ‹_›]
    split at h
    ·cases h
    ·rw [if_neg ‹_›]
     exact ⟨rfl, cut_le _ _ _⟩
theorem rtF_trs (s : ByteArray) (own : Nat) : ∀ (f : Nat) (r : Rn), (rtF s own f r).1 = true → (rtF s own f r).2.st = r.st ∧ ∀ t ∈ (rtF s own f r).2.tr, t ∈ r.tr ∨ (t.own = own ∧ t.acts.size ≤ s.size)
 | 0, r, _ => ⟨rfl, fun t ht => Or.inl ht⟩
 | f + 1, r, hk => by
  simp only [rtF] at hk ⊢
  split at hk
  ·rename_i h47
   rw [if_pos h47]
   split at hk
   ·rename_i hok
    rw [if_pos hok]
    have ih := rtF_trs s own f _ hk
    refine ⟨ih.1, fun t ht => ?_⟩
    rcases ih.2 t ht with h1 | h1
    ·rcases List.mem_append.1 h1 with h2 | h2
     ·exact Or.inl h2
     ·simp only [List.mem_cons, List.not_mem_nil, or_false] at h2
      rw [h2]; exact Or.inr (rtP_own s own r.i hok)
    ·exact Or.inr h1
   ·cases hk
  ·rename_i h47
   rw [if_neg h47]
   exact ⟨rfl, fun t ht => Or.inl ht⟩
theorem riF_shp (s : ByteArray) (g : Rn → Bool × Rn) (m L : Nat) (hgo : ∀ q, RdInv s q → m ≤ q.i → (g q).1 = true → GoesR s q (g q).2) (hg : ∀ q, RdInv s q → m ≤ q.i → L ≤ q.st.length → (g q).1 = true → Shp s q (g q).2 ∧ q.st.length < (g q).2.st.length) : ∀ (f n : Nat) (r : Rn), RdInv s r → m ≤ r.i → L ≤ r.st.length → (riF s g f n r).1 = true → Shp s r (riF s g f n r).2.2 ∧ ((riF s g f n r).2.1 = n ∨ r.st.length < (riF s g f n r).2.2.st.length)
 | 0, n, r, h, hm, hL, _ => ⟨Shp.refl _ _, Or.inl rfl⟩
 | f + 1, n, r, h, hm, hL, hk => by
  simp only [riF] at hk ⊢
  split at hk
  ·rename_i hN
   rw [if_pos hN]
   split at hk
   ·rename_i hok
    rw [if_pos hok]
    have hq := hgo r h hm hok
    have hs := hg r h hm hL hok
    have := hq.i
    have ih := riF_shp s g m L hgo hg f (n + 1) (g r).2 hq.inv (by omega) (by omega) hk
    exact ⟨hs.1.trans ih.1, Or.inr (Nat.lt_of_lt_of_le hs.2 ih.1.pre.length_le)⟩
   ·cases hk
  ·rename_i hN
   rw [if_neg hN]
   exact ⟨Shp.refl _ _, Or.inl rfl⟩
theorem riP_shp (s : ByteArray) (g : Rn → Bool × Rn) (fin : UInt8) (least : Nat) (hl : 1 ≤ least) (L : Nat) (r : Rn) (hi : RdInv s r) (hn : r.i < s.size) (hL : L ≤ r.st.length) (hgo : ∀ q, RdInv s q → r.i + 1 ≤ q.i → (g q).1 = true → GoesR s q (g q).2) (hg : ∀ q, RdInv s q → r.i + 1 ≤ q.i → L ≤ q.st.length → (g q).1 = true → Shp s q (g q).2 ∧ q.st.length < (g q).2.st.length) (hk : (riP s g fin least r).1 = true) :
  Shp s r (riP s g fin least r).2 ∧ r.st.length < (riP s g fin least r).2.st.length := by
 have h1 : RdInv s { r with i := r.i + 1 } := ⟨hn, by have := hi.2.1; simp only; omega, by have := hi.2.2; simp only; omega⟩
 unfold riP at hk ⊢
 split at hk
 ·cases hk
 ·rename_i hL2
  rw [if_neg hL2]
  split at hk
  ·cases hk
  ·rename_i hc
   rw [if_neg hc]
   have h9 : (riL s g 0 { r with i := r.i + 1 }).1 = true := by simpa using hL2
   have h2 := riF_shp s g (r.i + 1) L hgo hg (s.size - (r.i + 1)) 0 { r with i := r.i + 1 } h1 (Nat.le_refl _) hL h9
   have e : riL s g 0 { r with i := r.i + 1 } = riF s g (s.size - (r.i + 1)) 0 { r with i := r.i + 1 } := rfl
   rw [← e] at h2
   have h3 : ¬ (riL s g 0 { r with i := r.i + 1 }).2.1 < least := fun h => hc (Or.inl h)
   refine ⟨⟨h2.1.pre, h2.1.each, h2.1.trs⟩, ?_⟩
   rcases h2.2 with h4 | h4
   ·omega
   ·exact h4

theorem modify_lastQ {α : Type} (f : α → α) : ∀ (l : List α) (x : α), (l ++ [x]).modify l.length f = l ++ [f x]
 | [], x => rfl
 | a :: l, x => by
  show a :: (l ++ [x]).modify l.length f = _
  rw [modify_lastQ f l x]; rfl
structure X4 (s : ByteArray) (own : Nat) (outer : Int) (n : Nat) (x : StP) : Prop where
 ou : x.outer = outer
 en : x.enter.size ≤ s.size
 le : x.leave.size ≤ s.size
 nm : isN x.name = true
 rm : x.rem = false
 kd : x.kind ≠ 0 → own + 1 < n
theorem rsF_shp (s : ByteArray) : ∀ (f : Nat) (r : Rn) (outer : Int) (depth : Nat), RdInv s r → s.size - r.i < f → -1 ≤ outer → outer < (r.st.length : Int) → (rsF s f r outer depth).1 = true → Shp s r (rsF s f r outer depth).2 ∧ r.st.length < (rsF s f r outer depth).2.st.length
  | 0, r, _, _, h, hf, _, _, _ => by omega
  | f + 1, r, outer, depth, h, hf, ho1, ho2, hk => by
    simp only [rsF] at hk ⊢
    split at hk
    · cases hk
    · rename_i hN
      rw [if_neg hN]
      have hN' : isN (byte s r.i) = true := by simpa using hN
      have hin := isN_b s r.i hN'
      split at hk
      · cases hk
      · rename_i h43
        rw [if_neg h43]
        split at hk
        · cases hk
        · rename_i h45
          rw [if_neg h45]
          have b1 := abI_bd s 43 (r.i + 1) (by decide) hin
          have b2 := abI_bd s 45 (abI s 43 (r.i + 1)) (by decide) b1.2
          obtain ⟨a1, a2, a3⟩ := h
          have hr3 : RdInv s (rs3 s r.st.length (rs1 s r outer depth)) := by
            refine ⟨b2.2, ?_, ?_⟩
            · show (((r.st ++ [_]).modify _ _).modify _ _).length ≤ abI s 45 (abI s 43 (r.i + 1))
              simp only [List.length_modify, List.length_append, List.length_cons, List.length_nil]
              omega
            · show r.tr.length ≤ abI s 45 (abI s 43 (r.i + 1))
              omega
          have i3 : r.i + 1 ≤ (rs3 s r.st.length (rs1 s r outer depth)).i := by show r.i + 1 ≤ abI s 45 (abI s 43 (r.i + 1)); omega
          have t3 : (rs3 s r.st.length (rs1 s r outer depth)).tr = r.tr := rfl
          obtain ⟨x3, hx3, hX3⟩ : ∃ x3, (rs3 s r.st.length (rs1 s r outer depth)).st = r.st ++ [x3] ∧ x3.kind = 0 ∧ X4 s r.st.length outer 0 x3 := by
            refine ⟨⟨byte s r.i, r.i, depth, 0, outer, 0, abS s 43 (r.i + 1), abS s 45 (abI s 43 (r.i + 1)), false, false⟩, ?_, rfl, ⟨rfl, abS_le _ _ _, abS_le _ _ _, hN', rfl, fun h => absurd rfl h⟩⟩
            show ((r.st ++ [_]).modify r.st.length _).modify r.st.length _ = _
            rw [modify_lastQ, modify_lastQ]
            rfl
          generalize rs3 s r.st.length (rs1 s r outer depth) = q3 at *
          have hGo : ∀ q, RdInv s q → q3.i + 1 ≤ q.i → (rsF s f q (r.st.length : Nat) (depth + 1)).1 = true → GoesR s q (rsF s f q (r.st.length : Nat) (depth + 1)).2 := fun q hq hqi hqk => rsF_goes s f q _ _ hq (by omega) hqk
          have hG : ∀ q, RdInv s q → q3.i + 1 ≤ q.i → r.st.length + 1 ≤ q.st.length → (rsF s f q (r.st.length : Nat) (depth + 1)).1 = true → Shp s q (rsF s f q (r.st.length : Nat) (depth + 1)).2 ∧ q.st.length < (rsF s f q (r.st.length : Nat) (depth + 1)).2.st.length := fun q hq hqi hql hqk => rsF_shp s f q _ _ hq (by omega) (by omega) (by omega) hqk
          have h4 : (rs4 s (fun q => rsF s f q (r.st.length : Nat) (depth + 1)) r.st.length q3).1 = true → ∃ x4 i4, X4 s r.st.length outer (rs4 s (fun q => rsF s f q (r.st.length : Nat) (depth + 1)) r.st.length q3).2.st.length x4 ∧ Shp s ⟨i4, r.st ++ [x4], r.tr⟩ (rs4 s (fun q => rsF s f q (r.st.length : Nat) (depth + 1)) r.st.length q3).2 := by
            have hset : ∀ kk, (setKP q3 r.st.length kk).st = r.st ++ [{ x3 with kind := kk }] := by
              intro kk
              show q3.st.modify _ _ = _
              rw [hx3, modify_lastQ]
            have hone : ∀ fin kk least, (hl : 1 ≤ least) → q3.i < s.size → (riP s (fun q => rsF s f q (r.st.length : Nat) (depth + 1)) fin least (setKP q3 r.st.length kk)).1 = true → ∃ x4 i4, X4 s r.st.length outer (riP s (fun q => rsF s f q (r.st.length : Nat) (depth + 1)) fin least (setKP q3 r.st.length kk)).2.st.length x4 ∧ Shp s ⟨i4, r.st ++ [x4], r.tr⟩ (riP s (fun q => rsF s f q (r.st.length : Nat) (depth + 1)) fin least (setKP q3 r.st.length kk)).2 := by
              intro fin kk least hl hi hk4
              have hlen : (setKP q3 r.st.length kk).st.length = r.st.length + 1 := by rw [hset]; simp
              have hh := riP_shp s _ fin least hl (r.st.length + 1) (setKP q3 r.st.length kk) ⟨hr3.1, by simp [setKP]; exact hr3.2.1, hr3.2.2⟩ hi (by omega) hGo hG hk4
              refine ⟨{ x3 with kind := kk }, (setKP q3 r.st.length kk).i, ⟨hX3.2.ou, hX3.2.en, hX3.2.le, hX3.2.nm, hX3.2.rm, fun _ => by have := hh.2; omega⟩, ?_⟩
              have e : setKP q3 r.st.length kk = ⟨(setKP q3 r.st.length kk).i, r.st ++ [{ x3 with kind := kk }], r.tr⟩ := by
                have e1 := hset kk
                have e2 : (setKP q3 r.st.length kk).tr = r.tr := t3
                rw [← e1, ← e2]
              have h5 := hh.1
              rw [e] at h5 ⊢
              exact h5
            unfold rs4
            intro hk4
            split
            · rename_i hc
              rw [if_pos hc] at hk4
              exact hone 41 1 1 (by decide) (sg_in s 40 q3.i (by decide) hc) hk4
            · rename_i hc
              rw [if_neg hc] at hk4
              split
              · rename_i hc2
                rw [if_pos hc2] at hk4
                exact hone 93 2 2 (by decide) (sg_in s 91 q3.i (by decide) hc2) hk4
              · refine ⟨x3, q3.i, ⟨hX3.2.ou, hX3.2.en, hX3.2.le, hX3.2.nm, hX3.2.rm, fun h => absurd hX3.1 h⟩, ?_⟩
                have e : q3 = ⟨q3.i, r.st ++ [x3], r.tr⟩ := by rw [← hx3, ← t3]
                rw [← e]
                exact Shp.refl s q3
          generalize rs4 s (fun q => rsF s f q (r.st.length : Nat) (depth + 1)) r.st.length q3 = q4 at *
          unfold rs5 at hk ⊢
          split at hk
          · rename_i e; rw [e] at hk; cases hk
          · rename_i e
            rw [if_neg e]
            obtain ⟨x4, i4, hX4, hS4⟩ := h4 (by simpa using e)
            have hz := rtF_trs s r.st.length _ _ hk
            have hst : (rtL s r.st.length (setEP q4.2 r.st.length q4.2.st.length)).2.st = q4.2.st.modify r.st.length (fun x => { x with end_ := q4.2.st.length }) := hz.1
            have htr := hz.2
            have hpl := hS4.pre.length_le
            simp only [List.length_append, List.length_cons, List.length_nil] at hpl
            have hlen : (rtL s r.st.length (setEP q4.2 r.st.length q4.2.st.length)).2.st.length = q4.2.st.length := by rw [hst, List.length_modify]
            have h0 : q4.2.st[r.st.length]? = some x4 := by rw [pre_get hS4.pre (by simp)]; simp
            refine ⟨⟨?_, ?_, ?_⟩, by omega⟩
            · rw [hst]
              exact prefix_modify _ _ _ _ ((List.prefix_append _ _).trans hS4.pre) (Nat.le_refl _)
            · intro k x hkk hx
              rw [hlen]
              rw [hst, List.getElem?_modify] at hx
              by_cases hke : r.st.length = k
              · subst hke
                rw [h0] at hx
                simp only [if_pos, Option.map_eq_map, Option.map_some, Option.some.injEq] at hx
                subst hx
                exact ⟨by show _ < q4.2.st.length; omega, Nat.le_refl _, by show -1 ≤ x4.outer; rw [hX4.ou]; exact ho1, by show x4.outer < _; rw [hX4.ou]; exact ho2, hX4.kd, hX4.en, hX4.le, hX4.nm, hX4.rm⟩
              · have hx2 : q4.2.st[k]? = some x := by
                  cases h6 : q4.2.st[k]? with
                  | none => rw [h6] at hx; simp at hx
                  | some y => rw [h6] at hx; simp [hke] at hx; rw [hx]
                exact hS4.each k x (by simp; omega) hx2
            · intro t ht
              rcases htr t ht with h7 | h7
              · have h8 : t ∈ q4.2.tr := h7
                rcases hS4.trs t h8 with h9 | h9
                · exact Or.inl h9
                · exact Or.inr ⟨by rw [hlen]; exact h9.1, h9.2⟩
              · exact Or.inr ⟨by rw [hlen, h7.1]; omega, h7.2⟩

theorem pigeon : ∀ (n : Nat) (l : List Nat), l.Nodup → (∀ x ∈ l, x < n) → l.length ≤ n
 | 0, l, _, h => by
  cases l with
  | nil => exact Nat.le_refl _
  | cons a r => have := h a (by simp); omega
 | n + 1, l, hd, h => by
  have ih := pigeon n (l.erase n) (hd.erase n) (fun x hx => by
   have h1 := (hd.mem_erase_iff).1 hx
   have h2 := h x h1.2
   have h3 := h1.1
   omega)
  by_cases hm : n ∈ l
  ·rw [List.length_erase_of_mem hm] at ih; omega
  ·rw [List.erase_of_not_mem hm] at ih; omega
theorem idxP_le {st : List StP} {i : Nat} {x : StP} (h : st[i]? = some x) (c : UInt8) (hc : x.name = c) : idxP st c ≤ (i : Int) := by
 have hi := (List.getElem?_eq_some_iff.1 h).1
 have hp : isNmP st c i = true := by simp [isNmP, h, hc]
 unfold idxP
 rcases firstB_spec (isNmP st c) st.length with ⟨h1, h2⟩ | ⟨k, h1, h2, h3, h4⟩
 ·have := h2 i hi; rw [hp] at this; cases this
 ·rw [h1]
  show (k : Int) ≤ i
  by_cases hk : i < k
  ·have := h4 i hk; rw [hp] at this; cases this
  ·omega
theorem ftw_all {st : List StP} (h : ftw st = -1) {k : Nat} {x : StP} (hx : st[k]? = some x) : (k : Int) ≤ idxP st x.name := by
 have hk := (List.getElem?_eq_some_iff.1 hx).1
 unfold ftw at h
 rcases firstB_spec (twP st) st.length with ⟨h1, h2⟩ | ⟨j, h1, _⟩
 ·have h3 := h2 k hk
  simp only [twP, hx, decide_eq_false_iff_not] at h3
  omega
 ·rw [h1] at h; simp only at h; omega
theorem names_26 {st : List StP} (h : ftw st = -1) (hn : ∀ x ∈ st, isN x.name = true) : st.length ≤ 26 := by
 have hb : ∀ x ∈ st, 65 ≤ x.name.toNat ∧ x.name.toNat ≤ 90 := by
  intro x hx
  have h1 := hn x hx
  simp only [isN, Bool.and_eq_true, decide_eq_true_eq] at h1
  exact ⟨UInt8.le_iff_toNat_le.1 h1.1, UInt8.le_iff_toNat_le.1 h1.2⟩
 have hp := pigeon 26 (st.map fun x => x.name.toNat - 65) ?_ ?_
 ·simpa using hp
 ·rw [List.Nodup, List.pairwise_iff_getElem]
  intro i j hi hj hij e
  simp only [List.getElem_map] at e
  simp only [List.length_map] at hi hj
  have b1 := hb _ (List.getElem_mem hi)
  have b2 := hb _ (List.getElem_mem hj)
  have en : st[i].name = st[j].name := UInt8.toNat_inj.1 (by omega)
  have h1 := ftw_all h (List.getElem?_eq_getElem hj)
  have h2 := idxP_le (List.getElem?_eq_getElem hi) st[j].name en
  omega
 ·intro x hx
  obtain ⟨y, hy, rfl⟩ := List.mem_map.1 hx
  have := hb y hy
  omega

structure SmX (x y : StP) : Prop where
 e : x.end_ = y.end_
 o : x.outer = y.outer
 k : x.kind = y.kind
 en : x.enter = y.enter
 le : x.leave = y.leave
 n : x.name = y.name
 r : x.rem = true → y.rem = true ∨ y.kind = 1
def Sm (st0 st : List StP) : Prop := st.length = st0.length ∧ ∀ (k : Nat) (x : StP), st[k]? = some x → ∃ y, st0[k]? = some y ∧ SmX x y
theorem Sm.refl (st : List StP) : Sm st st := ⟨rfl, fun k x h => ⟨x, h, ⟨rfl, rfl, rfl, rfl, rfl, rfl, Or.inl⟩⟩⟩
theorem Sm.modify {st0 st : List StP} (h : Sm st0 st) (i : Nat) (g : StP → StP) (hg : ∀ x y, st0[i]? = some y → SmX x y → SmX (g x) y) : Sm st0 (st.modify i g) := by
 refine ⟨by rw [List.length_modify]; exact h.1, fun k x hx => ?_⟩
 rw [List.getElem?_modify] at hx
 cases h6 : st[k]? with
 | none => rw [h6] at hx; simp at hx
 | some z =>
  obtain ⟨y, hy, hs⟩ := h.2 k z h6
  refine ⟨y, hy, ?_⟩
  rw [h6] at hx
  by_cases hik : i = k
  ·simp only [hik, if_pos, Option.map_eq_map, Option.map_some, Option.some.injEq] at hx
   rw [← hx]
   exact hg z y (by rw [hik]; exact hy) hs
  ·simp [hik] at hx
   rw [← hx]; exact hs
theorem Sm.mark1 {st0 st : List StP} (h : Sm st0 st) (t : TrQ) (hb : badM st0 t = false) : Sm st0 (mark1 st t) := by
 unfold Proofs.YtmolmbeeoecnfaaGreatDoor.mark1
 split
 ·exact h
 ·rename_i hm
  have hk : kdP st0 t.ts = 1 := by
   simp only [badM, Bool.and_eq_false_iff, Bool.not_eq_false', beq_iff_eq] at hb
   rcases hb with hb | hb
   ·exact absurd hb hm
   ·exact hb
  have hR : ∀ x y, st0[t.ts.toNat]? = some y → SmX x y → SmX (setRem x) y := by
   intro x y hy hs
   refine ⟨hs.e, hs.o, hs.k, hs.en, hs.le, hs.n, fun _ => Or.inr ?_⟩
   simp only [kdP, hy] at hk
   exact hk
  have hW : ∀ x y, st0[t.ts.toNat]? = some y → SmX x y → SmX (setWh x) y := fun x y _ hs => ⟨hs.e, hs.o, hs.k, hs.en, hs.le, hs.n, hs.r⟩
  split
  ·exact (h.modify _ _ hR).modify _ _ hW
  ·exact h.modify _ _ hR
theorem Sm.fold {st0 : List StP} : ∀ (tr : List TrQ) (st : List StP), Sm st0 st → (∀ t ∈ tr, badM st0 t = false) → Sm st0 (tr.foldl Proofs.YtmolmbeeoecnfaaGreatDoor.mark1 st)
 | [], st, h, _ => h
 | t :: tr, st, h, hb => Sm.fold tr _ (h.mark1 t (hb t (by simp))) (fun u hu => hb u (by simp [hu]))

theorem unE_ok {s : ByteArray} (h : (unE s).1 = 0) : s.size ≤ 160 ∧ rcK s = true ∧ ftw (rcR s).2.st = -1 ∧ rsv (rcR s).2.st (rcR s).2.tr = -1 ∧ mrk (rcR s).2.st ((rcR s).2.tr.map (resQ (rcR s).2.st)) = -1 := by
 unfold unE at h
 split at h
 ·cases h
 ·split at h
  ·cases h
  ·split at h
   ·cases h
   ·split at h
    ·cases h
    ·split at h
     ·cases h
     ·split at h
      ·cases h
      ·rename_i h1 h2 h3 h4 h5 h6
       exact ⟨by omega, by simpa using h2, by omega, by omega, by omega⟩
theorem plan_ok (s : ByteArray) (h : (unE s).1 = 0) : PlOk (unSt s) (unTr s) := by
 obtain ⟨h160, hK, hw, hv, hm⟩ := unE_ok h
 have hok : (rcR s).1 = true := by
  simp only [rcK, Bool.and_eq_true] at hK
  exact hK.1
 have hI0 : RdInv s R0 := ⟨Nat.zero_le _, Nat.le_refl _, Nat.le_refl _⟩
 have hsh := rsF_shp s (s.size + 1) R0 (-1) 1 hI0 (by show s.size - 0 < _; omega) (Int.le_refl _) (by show (-1 : Int) < ((0 : Nat) : Int); omega) hok
 have hgo := rsF_goes s (s.size + 1) R0 (-1) 1 hI0 (by show s.size - 0 < _; omega) hok
 have hcd : CdOk s (rcR s).2 := CdOk.rsF _ _ _ _ (fun t ht => by simp [R0] at ht)
 have hinv : RdInv s (rcR s).2 := hgo.inv
 have hShp : Shp s R0 (rcR s).2 := hsh.1
 have hpos : 0 < (rcR s).2.st.length := hsh.2
 unfold unSt unTr
 generalize (rcR s).2 = q at *
 have hE : ∀ (k : Nat) (x : StP), q.st[k]? = some x → StK s q.st.length k x := fun k x hx => hShp.each k x (Nat.zero_le _) hx
 have h26 : q.st.length ≤ 26 := names_26 hw (fun x hx => by
  obtain ⟨k, hk⟩ := List.mem_iff_getElem?.1 hx
  exact (hE k x hk).nm)
 have hbm : ∀ t ∈ q.tr.map (resQ q.st), badM q.st t = false := by
  intro t ht
  unfold mrk at hm
  cases hf : (q.tr.map (resQ q.st)).find? (badM q.st) with
  | some x => rw [hf] at hm; simp only at hm; omega
  | none => simpa using List.find?_eq_none.1 hf t ht
 have hS : Sm q.st ((q.tr.map (resQ q.st)).foldl mark1 q.st) := Sm.fold _ _ (Sm.refl _) hbm
 have hgood : ∀ t ∈ q.tr, ∀ x ∈ refsQ t, 0 ≤ idxP q.st x.1 := by
  intro t ht x hx
  unfold rsv at hv
  cases hf : (q.tr.flatMap refsQ).find? (badR q.st) with
  | some y => rw [hf] at hv; simp only at hv; omega
  | none =>
   have h1 := List.find?_eq_none.1 hf x (List.mem_flatMap.2 ⟨t, ht, hx⟩)
   simp [badR] at h1
   exact h1
 generalize (q.tr.map (resQ q.st)).foldl mark1 q.st = st at *
 have hl := hS.1
 refine ⟨⟨by omega, ?_, ?_, ?_⟩, ?_, ?_, by omega, ?_, ?_⟩
 ·intro k x hx
  obtain ⟨y, hy, hs⟩ := hS.2 k x hx
  have := hE k y hy
  rw [hs.e, hl]; exact ⟨this.e1, this.e2⟩
 ·intro k x hx
  obtain ⟨y, hy, hs⟩ := hS.2 k x hx
  have := hE k y hy
  rw [hs.o]; exact ⟨this.o1, this.o2⟩
 ·intro k x hx hkd
  obtain ⟨y, hy, hs⟩ := hS.2 k x hx
  have := hE k y hy
  rw [hs.e]; exact this.kd (by rw [← hs.k]; exact hkd)
 ·intro x hx
  obtain ⟨k, hk⟩ := List.mem_iff_getElem?.1 hx
  obtain ⟨y, hy, hs⟩ := hS.2 k x hk
  have h1 := (hE k y hy).en
  have h2 := (hE k y hy).le
  rw [hs.en, hs.le]; omega
 ·intro k x hx hr
  obtain ⟨y, hy, hs⟩ := hS.2 k x hx
  rw [hs.k]
  rcases hs.r hr with h1 | h1
  ·rw [(hE k y hy).rm] at h1; cases h1
  ·omega
 ·intro t ht
  obtain ⟨t0, ht0, rfl⟩ := List.mem_map.1 ht
  have h1 : t0.own < q.st.length ∧ t0.acts.size ≤ s.size := by
   rcases hShp.trs t0 ht0 with h1 | h1
   ·simp [R0] at h1
   ·exact h1
  have h2 := idxP_bd q.st t0.tn
  have h3 := hgood t0 ht0 (t0.tn, t0.tp) (List.mem_append_right _ (by simp))
  have h4 := hcd t0 ht0
  refine ⟨⟨by rw [hl]; exact h1.1, h3, by rw [hl]; exact h2.2⟩, ?_, ?_, by show t0.acts.size ≤ 160; omega⟩
  ·intro c hc
   obtain ⟨c0, hc0, rfl⟩ := List.mem_map.1 hc
   have h5 := hgood t0 ht0 (c0.name, c0.place) (List.mem_append_left _ (List.mem_map.2 ⟨c0, hc0, rfl⟩))
   have h6 := idxP_bd q.st c0.name
   exact ⟨h5, by show idxP q.st c0.name < 26; omega⟩
  ·show (t0.conds.map (resC q.st)).length ≤ _
   rw [List.length_map]; omega
 ·rw [List.length_map]
  have := hinv.2.2
  have := hinv.1
  omega

section
variable {th th' : List TrH} (h : th.map TrH.q = th'.map TrH.q)
include h
theorem qq_len : th.length = th'.length := by simpa using congrArg List.length h
theorem qq (k : Nat) : (th[k]? = none ∧ th'[k]? = none) ∨ ∃ t t', th[k]? = some t ∧ th'[k]? = some t' ∧ t.q = t'.q := by
 have h1 : (th.map TrH.q)[k]? = (th'.map TrH.q)[k]? := by rw [h]
 rw [List.getElem?_map, List.getElem?_map] at h1
 cases h2 : th[k]? with
 | none => cases h3 : th'[k]? with
  | none => exact Or.inl ⟨rfl, rfl⟩
  | some t => rw [h2, h3] at h1; cases h1
 | some t => cases h3 : th'[k]? with
  | none => rw [h2, h3] at h1; cases h1
  | some t' => rw [h2, h3] at h1; exact Or.inr ⟨t, t', rfl, rfl, by simpa using h1⟩
theorem posB_congr (act : List Bool) (s : Nat) (ev : UInt8) : posB th act s ev = posB th' act s ev := by
 funext k
 unfold posB
 rcases qq h k with ⟨h1, h2⟩ | ⟨t, t', h1, h2, h3⟩
 ·rw [h1, h2]
 ·rw [h1, h2]; simp only; rw [h3]
theorem fpo_congr (act : List Bool) (s : Nat) (ev : UInt8) : fpo th act s ev = fpo th' act s ev := by
 unfold fpo; rw [posB_congr h, qq_len h]
theorem cfF_congr (st : List StP) (act : List Bool) (ev : UInt8) : ∀ (f : Nat) (s : Int), cfF st th act ev f s = cfF st th' act ev f s
 | 0, s => rfl
 | f + 1, s => by unfold cfF; rw [fpo_congr h, cfF_congr st act ev f]
theorem cl1_congr (st : List StP) (act : List Bool) (ev : UInt8) : cl1 st th act ev = cl1 st th' act ev := by
 funext acc s
 unfold cl1 cfO; rw [cfF_congr h]
theorem clL_congr (st : List StP) (act : List Bool) (ev : UInt8) : clL st th act ev = clL st th' act ev := by
 unfold clL clK; rw [cl1_congr h]
theorem wc1_congr (st : List StP) (act : List Bool) : wc1 st th act = wc1 st th' act := by
 funext z k
 unfold wc1
 rcases qq h k with ⟨h1, h2⟩ | ⟨t, t', h1, h2, h3⟩
 ·rw [h1, h2]
 ·rw [h1, h2]; simp only; rw [h3]
theorem tkn_congr (st : List StP) (act : List Bool) (ev : UInt8) : tkn st th act ev = tkn st th' act ev := by
 unfold tkn wcL; rw [wc1_congr h, clL_congr h]
theorem tk1_congr (st : List StP) : tk1 st th = tk1 st th' := by
 funext p n
 unfold tk1
 rcases qq h n with ⟨h1, h2⟩ | ⟨t, t', h1, h2, h3⟩
 ·rw [h1, h2]
 ·rw [h1, h2]; simp only; rw [h3]
theorem spF_congr (st : List StP) (ev : UInt8) (p : Py) : spF st th ev p = spF st th' ev p := by
 unfold spF; rw [tkn_congr h, tk1_congr h]
theorem plK_congr (st : List StP) (es : ByteArray) : ∀ k, plK st th es k = plK st th' es k
 | 0 => rfl
 | k + 1 => by unfold plK evStep; rw [spF_congr h, plK_congr st es k]
end


theorem lvF_pre (st : List StP) (left : List Bool) : ∀ (k : Nat) (p : Py), p.out <+: (lvF st left k p).out
 | 0, p => List.prefix_refl _
 | k + 1, p => by
  rw [lvF]
  split
  ·have h1 := lvF_pre st left k { p with act := p.act.set k false, out := p.out ++ bls (leaveAt st k) }
   exact List.IsPrefix.trans (List.prefix_append p.out (bls (leaveAt st k))) h1
  ·exact lvF_pre st left k p
theorem itF_pre (g : Nat → Py → Py) (hg : ∀ i p, p.out <+: (g i p).out) : ∀ (n i : Nat) (p : Py), p.out <+: (itF g n i p).out
 | 0, i, p => List.prefix_refl _
 | n + 1, i, p => (hg i p).trans (itF_pre g hg n (i + 1) (g i p))
theorem enF_pre (st : List StP) : ∀ (f s : Nat) (a : Am) (p : Py), p.out <+: (enF st f s a p).out
 | 0, s, a, p => List.prefix_refl _
 | f + 1, s, a, p => by
  rw [enF]
  split
  ·exact List.prefix_refl _
  ·rename_i x hx
   have h1 : p.out <+: ({ p with act := p.act.set s true, out := p.out ++ bls x.enter } : Py).out := List.prefix_append _ _
   split
   ·refine h1.trans (itF_pre _ ?_ _ _ _)
    intro i q
    split
    ·exact enF_pre st f i a q
    ·exact List.prefix_refl _
   ·split
    ·exact h1.trans (enF_pre st f _ _ _)
    ·exact h1

theorem mem_set (l : List Bool) (k : Nat) (v : Bool) (i : Nat) : mem (l.set k v) i = if k = i ∧ i < l.length then v else mem l i := by
 unfold mem
 rw [List.getElem?_set]
 by_cases h : k = i
 ·by_cases hi : i < l.length
  ·simp [h, hi]
  ·simp [h, hi]
 ·simp [h]
theorem rmF_act (st : List StP) (left : List Bool) : ∀ (k : Nat) (p : Py), (rmF st left k p).act = p.act
 | 0, p => rfl
 | k + 1, p => by
  rw [rmF, rmS]
  split
  ·split
   ·exact rmF_act st left k p
   ·exact rmF_act st left k p
  ·exact rmF_act st left k p
theorem lvF_len (st : List StP) (left : List Bool) : ∀ (k : Nat) (p : Py), (lvF st left k p).act.length = p.act.length
 | 0, p => rfl
 | k + 1, p => by
  rw [lvF]
  split
  ·rw [lvF_len st left k]; simp
  ·exact lvF_len st left k p

def NoP (a : ByteArray) : Prop := ∀ c ∈ bls a, c ≠ 46
theorem dend_dig (s : ByteArray) (i : Nat) : ∀ j, i ≤ j → j < dend s i → isD (byte s j) = true := by
 unfold dend
 generalize s.size - i = n
 induction n generalizing i with
 | zero => intro j h1 h2; simp only [dendF] at h2; omega
 | succ n ih =>
  intro j h1 h2
  simp only [dendF] at h2
  split at h2
  ·rename_i h
   by_cases e : j = i
   ·rw [e]; exact h
   ·exact ih (i + 1) j (by omega) h2
  ·omega
def DgS (st : List StP) : Prop := ∀ x ∈ st, NoP x.enter ∧ NoP x.leave

section
variable {st : List StP} (hd : DgS st)
include hd
end

theorem itF_alen (g : Nat → Py → Py) (hg : ∀ i (p : Py), (g i p).act.length = p.act.length) : ∀ (n i : Nat) (p : Py), (itF g n i p).act.length = p.act.length
 | 0, i, p => rfl
 | n + 1, i, p => (itF_alen g hg n (i + 1) (g i p)).trans (hg i p)
theorem enF_alen (st : List StP) : ∀ (f s : Nat) (a : Am) (p : Py), (enF st f s a p).act.length = p.act.length
 | 0, s, a, p => rfl
 | f + 1, s, a, p => by
  rw [enF]
  split
  ·rfl
  ·rename_i x hx
   have h1 : ({ p with act := p.act.set s true, out := p.out ++ bls x.enter } : Py).act.length = p.act.length := List.length_set
   split
   ·refine (itF_alen _ ?_ _ _ _).trans h1
    intro i q
    split
    ·exact enF_alen st f i a q
    ·rfl
   ·split
    ·exact (enF_alen st f _ _ _).trans h1
    ·exact h1
theorem tkF_alen (st : List StP) (t : TrQ) (p : Py) : (tkF st t p).act.length = p.act.length := by
 unfold tkF
 rw [enF_alen]
 show (lvF st (lefB st p.act t) st.length (rmF st (lefB st p.act t) st.length p)).act.length = _
 rw [lvF_len, rmF_act]
def th0 (s : ByteArray) : List TrH := (unTr s).map fun q => ⟨q, .slice none 0 0⟩
theorem th0_q (s : ByteArray) : (th0 s).map TrH.q = unTr s := by
 unfold th0
 rw [List.map_map]
 show (unTr s).map (fun q => q) = _
 simp
def plQ (s es : ByteArray) : Py := plK (unSt s) (th0 s) es es.size
def pO (s es : ByteArray) : ByteArray := if (unE s).1 = 0 then ⟨(plQ s es).out.toArray⟩ else ⟨#[]⟩
def pS (s es : ByteArray) : ByteArray := if (unE s).1 = 0 then ⟨(stT (unSt s) (plQ s es).act (plQ s es).mm (unSt s).length).toArray⟩ else ⟨#[]⟩
theorem unE_2 {s : ByteArray} (h : (unE s).1 = 0) : (unE s).2 = 0 := by
 unfold unE at h ⊢
 repeat' split at h
 all_goals first | cases h | skip
 all_goals simp_all
 all_goals rw [if_neg (by omega)]


def NoEv (th : List TrH) (ev : UInt8) : Prop := ∀ t ∈ th, t.q.event ≠ ev
section
variable {th : List TrH} {ev : UInt8} (h : NoEv th ev)
include h
theorem fpo_no (act : List Bool) (s : Nat) : fpo th act s ev = -1 := by
 unfold fpo
 rcases firstB_spec (posB th act s ev) th.length with ⟨h1, -⟩ | ⟨k, h1, h2, h3, -⟩
 ·rw [h1]
 ·exfalso
  unfold posB at h3
  split at h3
  ·rename_i t hx
   simp only [Bool.and_eq_true, beq_iff_eq] at h3
   exact h t (List.mem_of_getElem? hx) h3.2.1
  ·cases h3
theorem cfF_no (st : List StP) (act : List Bool) : ∀ (f : Nat) (s : Int), cfF st th act ev f s = -1
 | 0, s => rfl
 | f + 1, s => by
  unfold cfF
  rw [fpo_no h, cfF_no st act f]
  split
  ·rfl
  ·simp
theorem clK_no (st : List StP) (act : List Bool) : ∀ k, clK st th act ev k = []
 | 0 => rfl
 | k + 1 => by
  rw [clK_succ, clK_no st act k]
  unfold cl1 cfO
  rw [cfF_no h]
  split <;> simp
theorem tkn_no (st : List StP) (act : List Bool) : tkn st th act ev = [] := by
 unfold tkn clL; rw [clK_no h]; rfl
theorem evStep_no (st : List StP) (p : Py) : evStep st th p ev = { p with out := p.out ++ [46] } := by
 unfold evStep spF; rw [tkn_no h]; rfl
end

def Eqv (p q : Py) : Prop := p.act = q.act ∧ p.mm = q.mm
theorem lvF_eqv (st : List StP) (left : List Bool) : ∀ (k : Nat) (p q : Py), Eqv p q → Eqv (lvF st left k p) (lvF st left k q)
 | 0, p, q, h => h
 | k + 1, p, q, h => by
  rw [lvF, lvF]
  split
  ·exact lvF_eqv st left k _ _ ⟨by show p.act.set k false = q.act.set k false; rw [h.1], h.2⟩
  ·exact lvF_eqv st left k p q h
theorem rmF_eqv (st : List StP) (left : List Bool) : ∀ (k : Nat) (p q : Py), Eqv p q → Eqv (rmF st left k p) (rmF st left k q)
 | 0, p, q, h => h
 | k + 1, p, q, h => by
  have ih := rmF_eqv st left k p q h
  rw [rmF, rmF, rmS, rmS]
  split
  ·split
   ·exact ⟨ih.1, by show (rmF st left k p).mm.set _ _ = (rmF st left k q).mm.set _ _; rw [ih.1, ih.2]⟩
   ·exact ih
  ·exact ih
end Go.Proofs.YtmolmbeeoecnfaaGreatDoor
