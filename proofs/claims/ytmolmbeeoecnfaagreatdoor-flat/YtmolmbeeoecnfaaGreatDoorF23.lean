/- Own work: LgZ. -/
import Derived.Test.YtmolmbeeoecnfaaGreatDoorF22
/- Own work: the states that were read are a tree in text order. -/
namespace Go.Proofs.YtmolmbeeoecnfaaGreatDoor
open Go.RowKit Go.BigFrame
set_option linter.unusedVariables false
set_option linter.unusedSimpArgs false

def Fo (st : List StP) (lo hi : Nat) (p : Int) : Prop := ∀ k, lo ≤ k → k < hi → endAt st k ≤ hi ∧ (outAt st k = p ∨ ∃ j : Nat, lo ≤ j ∧ outAt st k = (j : Int) ∧ k < endAt st j) ∧ ∀ j, lo ≤ j → j < k → k < endAt st j → endAt st k ≤ endAt st j ∧ (j : Int) ≤ outAt st k
theorem Fo.nil (st : List StP) (lo : Nat) (p : Int) : Fo st lo lo p := fun k h1 h2 => by omega
theorem Fo.congr {st st' : List StP} {lo hi : Nat} {p : Int} (h : Fo st lo hi p) (he : ∀ k, lo ≤ k → k < hi → endAt st' k = endAt st k ∧ outAt st' k = outAt st k) (ho : ∀ k, lo ≤ k → k < hi → outAt st k < (k : Int)) : Fo st' lo hi p := by
 intro k h1 h2
 obtain ⟨a1, a2, a3⟩ := h k h1 h2
 have e := he k h1 h2
 rw [e.1, e.2]
 refine ⟨a1, ?_, ?_⟩
 ·rcases a2 with a2 | ⟨j, b1, b2, b3⟩
  ·exact Or.inl a2
  ·have := ho k h1 h2
   exact Or.inr ⟨j, b1, b2, by rw [(he j b1 (by omega)).1]; exact b3⟩
 ·intro j b1 b2 b3
  rw [(he j b1 (by omega)).1] at b3 ⊢
  exact a3 j b1 b2 b3
theorem Fo.app {st : List StP} {lo mid hi : Nat} {p : Int} (h1 : lo ≤ mid) (h2 : mid ≤ hi) (h : Fo st lo mid p) (g : Fo st mid hi p) : Fo st lo hi p := by
 intro k k1 k2
 by_cases hk : k < mid
 ·obtain ⟨a1, a2, a3⟩ := h k k1 hk
  exact ⟨by omega, a2, a3⟩
 ·obtain ⟨a1, a2, a3⟩ := g k (by omega) k2
  refine ⟨a1, ?_, ?_⟩
  ·rcases a2 with a2 | ⟨j, b1, b2, b3⟩
   ·exact Or.inl a2
   ·exact Or.inr ⟨j, by omega, b2, b3⟩
  ·intro j b1 b2 b3
   by_cases hj : j < mid
   ·have := (h j b1 hj).1; omega
   ·exact a3 j (by omega) b2 b3
theorem Fo.up {st : List StP} {n hi : Nat} {p : Int} (hn : n < hi) (h : Fo st (n + 1) hi (n : Int)) (he : endAt st n = hi) (ho : outAt st n = p) : Fo st n hi p := by
 intro k k1 k2
 by_cases hk : k = n
 ·subst hk
  exact ⟨by omega, Or.inl ho, fun j a b => by omega⟩
 ·obtain ⟨a1, a2, a3⟩ := h k (by omega) k2
  refine ⟨a1, Or.inr ?_, ?_⟩
  ·rcases a2 with a2 | ⟨j, b1, b2, b3⟩
   ·exact ⟨n, Nat.le_refl _, a2, by omega⟩
   ·exact ⟨j, by omega, b2, b3⟩
  ·intro j b1 b2 b3
   by_cases hj : j = n
   ·subst hj
    refine ⟨by omega, ?_⟩
    rcases a2 with a2 | ⟨i, c1, c2, c3⟩
    ·omega
    ·omega
   ·exact a3 j (by omega) b2 b3
structure FoR (r q : Rn) (p : Int) : Prop where
 pre : r.st <+: q.st
 fo : Fo q.st r.st.length q.st.length p
 ou : ∀ k, r.st.length ≤ k → k < q.st.length → outAt q.st k < (k : Int)
theorem at_pre {l m : List StP} (h : l <+: m) {k : Nat} (hk : k < l.length) : endAt m k = endAt l k ∧ outAt m k = outAt l k := by
 unfold endAt outAt; rw [pre_get h hk]; exact ⟨rfl, rfl⟩
theorem FoR.refl (r : Rn) (p : Int) : FoR r r p := ⟨List.prefix_refl _, Fo.nil _ _ _, fun k a b => by omega⟩
theorem FoR.trans {r q z : Rn} {p : Int} (h : FoR r q p) (g : FoR q z p) : FoR r z p where
 pre := h.pre.trans g.pre
 fo := Fo.app h.pre.length_le g.pre.length_le (h.fo.congr (fun k _ hk => at_pre g.pre hk) h.ou) g.fo
 ou := fun k a b => by
  by_cases hk : k < q.st.length
  ·rw [(at_pre g.pre hk).2]; exact h.ou k a hk
  ·exact g.ou k (by omega) b
theorem riF_fo (s : ByteArray) (g : Rn → Bool × Rn) (p : Int) (m : Nat) (hgo : ∀ q, RdInv s q → m ≤ q.i → (g q).1 = true → GoesR s q (g q).2) (L : Nat) (hg : ∀ q, RdInv s q → m ≤ q.i → L ≤ q.st.length → (g q).1 = true → FoR q (g q).2 p) : ∀ (f n : Nat) (r : Rn), RdInv s r → m ≤ r.i → L ≤ r.st.length → (riF s g f n r).1 = true → FoR r (riF s g f n r).2.2 p
 | 0, n, r, h, hm, hL, _ => FoR.refl _ _
 | f + 1, n, r, h, hm, hL, hk => by
  simp only [riF] at hk ⊢
  split at hk
  ·rename_i hN
   rw [if_pos hN]
   split at hk
   ·rename_i hok
    rw [if_pos hok]
    have hq := hgo r h hm hok
    have hs := hg r h hm hL hok
    have := hq.i
    have := hs.pre.length_le
    exact hs.trans (riF_fo s g p m hgo L hg f (n + 1) (g r).2 hq.inv (by omega) (by omega) hk)
   ·cases hk
  ·rename_i hN
   rw [if_neg hN]
   exact FoR.refl _ _
theorem riP_fo (s : ByteArray) (g : Rn → Bool × Rn) (p : Int) (fin : UInt8) (least : Nat) (L : Nat) (r : Rn) (hi : RdInv s r) (hn : r.i < s.size) (hL : L ≤ r.st.length) (hgo : ∀ q, RdInv s q → r.i + 1 ≤ q.i → (g q).1 = true → GoesR s q (g q).2) (hg : ∀ q, RdInv s q → r.i + 1 ≤ q.i → L ≤ q.st.length → (g q).1 = true → FoR q (g q).2 p) (hk : (riP s g fin least r).1 = true) :
  FoR r (riP s g fin least r).2 p := by
 have h1 : RdInv s { r with i := r.i + 1 } := ⟨hn, by have := hi.2.1; simp only; omega, by have := hi.2.2; simp only; omega⟩
 unfold riP at hk ⊢
 split at hk
 ·cases hk
 ·rename_i hL2
  rw [if_neg hL2]
  split at hk
  ·cases hk
  ·rename_i hc
   rw [if_neg hc]
   have h9 : (riL s g 0 { r with i := r.i + 1 }).1 = true := by simpa using hL2
   have h2 := riF_fo s g p (r.i + 1) hgo L hg (s.size - (r.i + 1)) 0 { r with i := r.i + 1 } h1 (Nat.le_refl _) hL h9
   exact ⟨h2.pre, h2.fo, h2.ou⟩
theorem rsF_fo (s : ByteArray) : ∀ (f : Nat) (r : Rn) (outer : Int) (depth : Nat), RdInv s r → s.size - r.i < f → outer < (r.st.length : Int) → (rsF s f r outer depth).1 = true → FoR r (rsF s f r outer depth).2 outer ∧ r.st.length < (rsF s f r outer depth).2.st.length ∧ endAt (rsF s f r outer depth).2.st r.st.length = (rsF s f r outer depth).2.st.length
 | 0, r, _, _, h, hf, _, _ => by omega
 | f + 1, r, outer, depth, h, hf, ho2, hk => by
  simp only [rsF] at hk ⊢
  split at hk
  ·cases hk
  ·rename_i hN
   rw [if_neg hN]
   have hN' : isN (byte s r.i) = true := by simpa using hN
   have hin := isN_b s r.i hN'
   split at hk
   ·cases hk
   ·rename_i h43
    rw [if_neg h43]
    split at hk
    ·cases hk
    ·rename_i h45
     rw [if_neg h45]
     have b1 := abI_bd s 43 (r.i + 1) (by decide) hin
     have b2 := abI_bd s 45 (abI s 43 (r.i + 1)) (by decide) b1.2
     obtain ⟨a1, a2, a3⟩ := h
     have hr3 : RdInv s (rs3 s r.st.length (rs1 s r outer depth)) := by
      refine ⟨b2.2, ?_, ?_⟩
      ·show (((r.st ++ [_]).modify _ _).modify _ _).length ≤ abI s 45 (abI s 43 (r.i + 1))
       simp only [List.length_modify, List.length_append, List.length_cons, List.length_nil]
       omega
      ·show r.tr.length ≤ abI s 45 (abI s 43 (r.i + 1))
       omega
     have i3 : r.i + 1 ≤ (rs3 s r.st.length (rs1 s r outer depth)).i := by show r.i + 1 ≤ abI s 45 (abI s 43 (r.i + 1)); omega
     obtain ⟨x3, hx3, hX3⟩ : ∃ x3 : StP, (rs3 s r.st.length (rs1 s r outer depth)).st = r.st ++ [x3] ∧ x3.outer = outer := by
      refine ⟨⟨byte s r.i, r.i, depth, 0, outer, 0, abS s 43 (r.i + 1), abS s 45 (abI s 43 (r.i + 1)), false, false⟩, ?_, rfl⟩
      show ((r.st ++ [_]).modify r.st.length _).modify r.st.length _ = _
      rw [modify_lastQ, modify_lastQ]
      rfl
     generalize rs3 s r.st.length (rs1 s r outer depth) = q3 at *
     have hGo : ∀ q, RdInv s q → q3.i + 1 ≤ q.i → (rsF s f q (r.st.length : Nat) (depth + 1)).1 = true → GoesR s q (rsF s f q (r.st.length : Nat) (depth + 1)).2 := fun q hq hqi hqk => rsF_goes s f q _ _ hq (by omega) hqk
     have hG : ∀ q, RdInv s q → q3.i + 1 ≤ q.i → r.st.length + 1 ≤ q.st.length → (rsF s f q (r.st.length : Nat) (depth + 1)).1 = true → FoR q (rsF s f q (r.st.length : Nat) (depth + 1)).2 (r.st.length : Nat) := fun q hq hqi hql hqk => (rsF_fo s f q _ _ hq (by omega) (by omega) hqk).1
     have h4 : (rs4 s (fun q => rsF s f q (r.st.length : Nat) (depth + 1)) r.st.length q3).1 = true → ∃ x4 : StP, ∃ i4 t4, x4.outer = outer ∧ FoR ⟨i4, r.st ++ [x4], t4⟩ (rs4 s (fun q => rsF s f q (r.st.length : Nat) (depth + 1)) r.st.length q3).2 (r.st.length : Nat) := by
      have hset : ∀ kk, (setKP q3 r.st.length kk).st = r.st ++ [{ x3 with kind := kk }] := by
       intro kk
       show q3.st.modify _ _ = _
       rw [hx3, modify_lastQ]
      have hone : ∀ fin kk least, q3.i < s.size → (riP s (fun q => rsF s f q (r.st.length : Nat) (depth + 1)) fin least (setKP q3 r.st.length kk)).1 = true → ∃ x4 : StP, ∃ i4 t4, x4.outer = outer ∧ FoR ⟨i4, r.st ++ [x4], t4⟩ (riP s (fun q => rsF s f q (r.st.length : Nat) (depth + 1)) fin least (setKP q3 r.st.length kk)).2 (r.st.length : Nat) := by
       intro fin kk least hi hk4
       have hlen : (setKP q3 r.st.length kk).st.length = r.st.length + 1 := by rw [hset]; simp
       have hh := riP_fo s _ (r.st.length : Nat) fin least (r.st.length + 1) (setKP q3 r.st.length kk) ⟨hr3.1, by simp [setKP]; exact hr3.2.1, hr3.2.2⟩ hi (by omega) hGo hG hk4
       refine ⟨{ x3 with kind := kk }, (setKP q3 r.st.length kk).i, (setKP q3 r.st.length kk).tr, hX3, ?_⟩
       have e : setKP q3 r.st.length kk = ⟨(setKP q3 r.st.length kk).i, r.st ++ [{ x3 with kind := kk }], (setKP q3 r.st.length kk).tr⟩ := by
        have e1 := hset kk
        rw [← e1]
       rw [e] at hh ⊢
       exact hh
      unfold rs4
      intro hk4
      split
      ·rename_i hc
       rw [if_pos hc] at hk4
       exact hone 41 1 1 (sg_in s 40 q3.i (by decide) hc) hk4
      ·rename_i hc
       rw [if_neg hc] at hk4
       split
       ·rename_i hc2
        rw [if_pos hc2] at hk4
        exact hone 93 2 2 (sg_in s 91 q3.i (by decide) hc2) hk4
       ·refine ⟨x3, q3.i, q3.tr, hX3, ?_⟩
        have e : q3 = ⟨q3.i, r.st ++ [x3], q3.tr⟩ := by rw [← hx3]
        rw [← e]
        exact FoR.refl q3 _
     generalize rs4 s (fun q => rsF s f q (r.st.length : Nat) (depth + 1)) r.st.length q3 = q4 at *
     unfold rs5 at hk ⊢
     split at hk
     ·rename_i e; rw [e] at hk; cases hk
     ·rename_i e
      rw [if_neg e]
      obtain ⟨x4, i4, t4, hX4, hS4⟩ := h4 (by simpa using e)
      have hz := rtF_trs s r.st.length _ _ hk
      have hst : (rtL s r.st.length (setEP q4.2 r.st.length q4.2.st.length)).2.st = q4.2.st.modify r.st.length (fun x => { x with end_ := q4.2.st.length }) := hz.1
      have hpl := hS4.pre.length_le
      simp only [List.length_append, List.length_cons, List.length_nil] at hpl
      have hlen : (rtL s r.st.length (setEP q4.2 r.st.length q4.2.st.length)).2.st.length = q4.2.st.length := by rw [hst, List.length_modify]
      have h0 : q4.2.st[r.st.length]? = some x4 := by rw [pre_get hS4.pre (by simp)]; simp
      have hown : (rtL s r.st.length (setEP q4.2 r.st.length q4.2.st.length)).2.st[r.st.length]? = some { x4 with end_ := q4.2.st.length } := by
       rw [hst, List.getElem?_modify, h0]; simp
      have hoth : ∀ k, r.st.length + 1 ≤ k → (rtL s r.st.length (setEP q4.2 r.st.length q4.2.st.length)).2.st[k]? = q4.2.st[k]? := by
       intro k hk
       rw [hst, List.getElem?_modify]
       cases q4.2.st[k]? with
       | none => rfl
       | some y => simp; intro h; omega
      have hoE : ∀ k, r.st.length + 1 ≤ k → endAt (rtL s r.st.length (setEP q4.2 r.st.length q4.2.st.length)).2.st k = endAt q4.2.st k ∧ outAt (rtL s r.st.length (setEP q4.2 r.st.length q4.2.st.length)).2.st k = outAt q4.2.st k := by
       intro k hk; unfold endAt outAt; rw [hoth k hk]; exact ⟨rfl, rfl⟩
      have hfo := hS4.fo
      have hou := hS4.ou
      simp only [List.length_append, List.length_cons, List.length_nil] at hfo hou
      have hE : endAt (rtL s r.st.length (setEP q4.2 r.st.length q4.2.st.length)).2.st r.st.length = q4.2.st.length := by unfold endAt; rw [hown]
      have hO : outAt (rtL s r.st.length (setEP q4.2 r.st.length q4.2.st.length)).2.st r.st.length = outer := by unfold outAt; rw [hown]; exact hX4
      refine ⟨⟨?_, ?_, ?_⟩, by omega, by rw [hE, hlen]⟩
      ·rw [hst]
       exact prefix_modify _ _ _ _ ((List.prefix_append _ _).trans hS4.pre) (Nat.le_refl _)
      ·rw [hlen]
       exact Fo.up (by omega) (hfo.congr (fun k a b => hoE k a) hou) hE hO
      ·intro k hkk hk2
       rw [hlen] at hk2
       by_cases hke : k = r.st.length
       ·subst hke; rw [hO]; exact ho2
       ·rw [(hoE k (by omega)).2]; exact hou k (by omega) hk2
structure Tre (st : List StP) : Prop where
 fo : Fo st 0 st.length (-1)
 e0 : endAt st 0 = st.length
 o0 : outAt st 0 = -1
theorem Sm.at {st0 st : List StP} (h : Sm st0 st) (k : Nat) : endAt st k = endAt st0 k ∧ outAt st k = outAt st0 k := by
 unfold endAt outAt
 cases h1 : st[k]? with
 | none =>
  have : st0[k]? = none := by
   rw [List.getElem?_eq_none_iff] at h1 ⊢
   rw [← h.1]; exact h1
  rw [this]; exact ⟨rfl, rfl⟩
 | some x =>
  obtain ⟨y, hy, hs⟩ := h.2 k x h1
  rw [hy]; exact ⟨hs.e, hs.o⟩
theorem un_sm {s : ByteArray} (h : (unE s).1 = 0) : Sm (rcR s).2.st (unSt s) := by
 obtain ⟨h160, hK, hw, hv, hm⟩ := unE_ok h
 refine Sm.fold _ _ (Sm.refl _) ?_
 intro t ht
 unfold mrk at hm
 cases hf : ((rcR s).2.tr.map (resQ (rcR s).2.st)).find? (badM (rcR s).2.st) with
 | some x => rw [hf] at hm; simp only at hm; omega
 | none => simpa using List.find?_eq_none.1 hf t ht
theorem un_tre {s : ByteArray} (h : (unE s).1 = 0) : Tre (unSt s) := by
 obtain ⟨h160, hK, hw, hv, hm⟩ := unE_ok h
 have hok : (rcR s).1 = true := by
  simp only [rcK, Bool.and_eq_true] at hK
  exact hK.1
 have hI0 : RdInv s R0 := ⟨Nat.zero_le _, Nat.le_refl _, Nat.le_refl _⟩
 have hf := rsF_fo s (s.size + 1) R0 (-1) 1 hI0 (by show s.size - 0 < _; omega) (by show (-1 : Int) < ((0 : Nat) : Int); omega) hok
 have hF : FoR R0 (rcR s).2 (-1) := hf.1
 have hE : endAt (rcR s).2.st 0 = (rcR s).2.st.length := hf.2.2
 have hP : 0 < (rcR s).2.st.length := hf.2.1
 have hS := un_sm h
 have hl := hS.1
 refine ⟨?_, ?_, ?_⟩
 ·rw [hl]
  exact hF.fo.congr (fun k _ _ => hS.at k) hF.ou
 ·rw [(hS.at 0).1, hl]; exact hE
 ·rw [(hS.at 0).2]
  have h1 := hF.ou 0 (Nat.le_refl _) hP
  rcases (hF.fo 0 (Nat.le_refl _) hP).2.1 with h2 | ⟨j, -, h2, -⟩
  ·exact h2
  ·omega

structure Tr (st : List StP) : Prop where
 wf : Wf st
 te : Tre st
 s0 : 0 < st.length
section
variable {st : List StP} (ht : Tr st)
include ht
theorem Tr.end_gt {k : Nat} (hk : k < st.length) : k < endAt st k ∧ endAt st k ≤ st.length := by
 obtain ⟨x, hx⟩ : ∃ x, st[k]? = some x := ⟨_, List.getElem?_eq_getElem hk⟩
 rw [endAt_at hx]; exact ht.wf.en k x hx
theorem Tr.out_lt {k : Nat} (hk : k < st.length) : -1 ≤ outAt st k ∧ outAt st k < (k : Int) := by
 obtain ⟨x, hx⟩ : ∃ x, st[k]? = some x := ⟨_, List.getElem?_eq_getElem hk⟩
 rw [outAt_at hx]; exact ht.wf.ou k x hx
theorem Tr.below {k o : Nat} (hk : k < st.length) (h1 : o < k) (h2 : k < endAt st o) : endAt st k ≤ endAt st o ∧ (o : Int) ≤ outAt st k :=
 (ht.te.fo k (Nat.zero_le _) hk).2.2 o (Nat.zero_le _) h1 h2
theorem Tr.child {k j : Nat} (hk : k < st.length) (h : outAt st k = (j : Int)) : j < k ∧ k < endAt st j := by
 have h1 := (ht.out_lt hk).2
 rcases (ht.te.fo k (Nat.zero_le _) hk).2.1 with h2 | ⟨i, -, h2, h3⟩
 ·omega
 ·have : i = j := by omega
  subst this
  exact ⟨by omega, h3⟩
theorem Tr.fst {o : Nat} (ho : o < st.length) (h : o + 1 < endAt st o) : outAt st (o + 1) = (o : Int) := by
 have h1 := ht.end_gt ho
 have h2 := ht.below (k := o + 1) (by omega) (by omega) h
 have h3 := ht.out_lt (k := o + 1) (by omega)
 omega
theorem Tr.via {o : Nat} (ho : o < st.length) : ∀ (k : Nat), o < k → k < endAt st o → ∃ c, outAt st c = (o : Int) ∧ o < c ∧ c ≤ k ∧ k < endAt st c := by
 intro k
 induction k using Nat.strongRecOn with
 | _ k ih =>
  intro h1 h2
  have he := ht.end_gt ho
  have hk : k < st.length := by omega
  have hb := ht.below hk h1 h2
  have hl := ht.out_lt hk
  by_cases e : outAt st k = (o : Int)
  ·exact ⟨k, e, h1, Nat.le_refl _, (ht.end_gt hk).1⟩
  ·obtain ⟨j, hj⟩ : ∃ j : Nat, outAt st k = (j : Int) := ⟨(outAt st k).toNat, by omega⟩
   have hc := ht.child hk hj
   obtain ⟨c, c1, c2, c3, c4⟩ := ih j (by omega) (by omega) (by omega)
   refine ⟨c, c1, c2, by omega, ?_⟩
   by_cases ecj : c = j
   ·subst ecj; exact hc.2
   ·have := ht.below (k := j) (o := c) (by omega) (by omega) c4
    omega
theorem Tr.apart {o c d : Nat} (hc : c < st.length) (hd : d < st.length) (h1 : outAt st c = (o : Int)) (h2 : outAt st d = (o : Int)) (h : c < d) : endAt st c ≤ d := by
 by_cases e : d < endAt st c
 ·have h3 := ht.below hd h e
  have h4 := ht.child hc h1
  omega
 ·omega
end

structure Loc (st : List StP) (act : List Bool) (i : Nat) : Prop where
 off : mem act i = false → ∀ k, k < st.length → outAt st k = (i : Int) → mem act k = false
 one : mem act i = true → kindAt st i = 1 → ∃ c, c < st.length ∧ outAt st c = (i : Int) ∧ mem act c = true ∧ ∀ k, k < st.length → outAt st k = (i : Int) → mem act k = true → k = c
 all : mem act i = true → kindAt st i = 2 → ∀ k, k < st.length → outAt st k = (i : Int) → mem act k = true
theorem Loc.congr {st : List StP} {a b : List Bool} {i : Nat} (h : Loc st a i) (hi : mem b i = mem a i) (hk : ∀ k, k < st.length → outAt st k = (i : Int) → mem b k = mem a k) : Loc st b i where
 off := fun h1 k k1 k2 => by rw [hk k k1 k2]; exact h.off (by rw [← hi]; exact h1) k k1 k2
 one := fun h1 h2 => by
  obtain ⟨c, c1, c2, c3, c4⟩ := h.one (by rw [← hi]; exact h1) h2
  exact ⟨c, c1, c2, by rw [hk c c1 c2]; exact c3, fun k k1 k2 k3 => c4 k k1 k2 (by rw [← hk k k1 k2]; exact k3)⟩
 all := fun h1 h2 k k1 k2 => by rw [hk k k1 k2]; exact h.all (by rw [← hi]; exact h1) h2 k k1 k2
theorem mem_set_self {l : List Bool} {k : Nat} (h : k < l.length) (v : Bool) : mem (l.set k v) k = v := by rw [mem_set, if_pos ⟨rfl, h⟩]
theorem mem_set_ne {l : List Bool} {k j : Nat} (h : k ≠ j) (v : Bool) : mem (l.set k v) j = mem l j := by rw [mem_set, if_neg (fun e => h e.1)]

structure Ent (st : List StP) (s : Nat) (p q : Py) : Prop where
 len : q.act.length = p.act.length
 mm : q.mm = p.mm
 out : ∀ j, (j < s ∨ endAt st s ≤ j) → mem q.act j = mem p.act j
 on : mem q.act s = true
 loc : ∀ i, s ≤ i → i < endAt st s → Loc st q.act i

theorem inAm_ch {st : List StP} (ht : Tr st) {s : Nat} (hs : s < st.length) (hk : s + 1 < endAt st s) (l : List Bool) : inAm st s l < st.length ∧ outAt st (inAm st s l) = (s : Int) := by
 have he := ht.end_gt hs
 unfold inAm
 rcases firstB_spec (inA st s l) (endAt st s) with ⟨h1, -⟩ | ⟨k, h1, h2, h3, -⟩
 ·rw [h1]; exact ⟨by simp only; omega, ht.fst hs hk⟩
 ·rw [h1]
  unfold inA at h3
  simp only [Bool.and_eq_true, beq_iff_eq, decide_eq_true_eq] at h3
  exact ⟨by simp only; omega, h3.2.1⟩
theorem inTo_ch {st : List StP} (ht : Tr st) {s : Nat} (hs : s < st.length) (hk : s + 1 < endAt st s) (t : Nat) : inTo st s t < st.length ∧ outAt st (inTo st s t) = (s : Int) := by
 have he := ht.end_gt hs
 unfold inTo
 rcases firstB_spec (inT st s t) (endAt st s) with ⟨h1, -⟩ | ⟨k, h1, h2, h3, -⟩
 ·rw [h1]; exact ⟨by simp only; omega, ht.fst hs hk⟩
 ·rw [h1]
  unfold inT at h3
  simp only [Bool.and_eq_true, beq_iff_eq, decide_eq_true_eq] at h3
  exact ⟨by simp only; omega, h3.2.1⟩
theorem chP_ch {st : List StP} (ht : Tr st) {s : Nat} (hs : s < st.length) (hk : s + 1 < endAt st s) (mm : List (List Bool)) (a : Am) : (chP st mm s a).1 < st.length ∧ outAt st (chP st mm s a).1 = (s : Int) := by
 have he := ht.end_gt hs
 have hf : s + 1 < st.length ∧ outAt st (s + 1) = (s : Int) := ⟨by omega, ht.fst hs hk⟩
 unfold chP
 split
 ·exact inAm_ch ht hs hk _
 ·split
  ·exact hf
  ·split
   ·exact inTo_ch ht hs hk _
   ·split
    ·exact hf
    ·split
     ·exact inAm_ch ht hs hk _
     ·exact inAm_ch ht hs hk _

theorem Ent.or {st : List StP} (ht : Tr st) {s c : Nat} {p q : Py} (hs : s < st.length) (hc : c < st.length) (hoc : outAt st c = (s : Int)) (hon : mem p.act s = true) (hk : kindAt st s = 1) (hno : ∀ j, s < j → j < endAt st s → mem p.act j = false) (h : Ent st c p q) :
  (∀ j, (j ≤ s ∨ endAt st s ≤ j) → mem q.act j = mem p.act j) ∧ ∀ i, s ≤ i → i < endAt st s → Loc st q.act i := by
 have hsc := ht.child hc hoc
 have hbc := ht.below hc hsc.1 hsc.2
 have hec := ht.end_gt hc
 have hes := ht.end_gt hs
 refine ⟨fun j hj => h.out j (by omega), ?_⟩
 intro i h1 h2
 have hqs : mem q.act s = true := by rw [h.out s (Or.inl hsc.1)]; exact hon
 by_cases hin : c ≤ i ∧ i < endAt st c
 ·exact h.loc i hin.1 hin.2
 ·by_cases his : i = s
  ·subst his
   refine ⟨fun e => (by rw [hqs] at e; cases e), fun _ _ => ⟨c, hc, hoc, h.on, ?_⟩, fun _ e => (by rw [hk] at e; cases e)⟩
   intro k k1 k2 k3
   by_cases hkc : k = c
   ·exact hkc
   ·exfalso
    have hkr := ht.child k1 k2
    have : mem q.act k = mem p.act k := h.out k (by
     rcases Nat.lt_or_ge k c with e | e
     ·exact Or.inl e
     ·exact Or.inr (ht.apart hc k1 hoc k2 (by omega)))
    rw [this, hno k hkr.1 hkr.2] at k3
    cases k3
  ·have hout : mem q.act i = false := by rw [h.out i (by omega)]; exact hno i (by omega) h2
   refine ⟨fun _ k k1 k2 => ?_, fun e => (by rw [hout] at e; cases e), fun e => (by rw [hout] at e; cases e)⟩
   have hkr := ht.child k1 k2
   have hbi := ht.below (k := i) (o := s) (by omega) (by omega) h2
   have hkn : ¬ (c ≤ k ∧ k < endAt st c) := by
    rintro ⟨e1, e2⟩
    by_cases hkc : k = c
    ·subst hkc; omega
    ·have := ht.below (k := k) (o := c) k1 (by omega) e2
     omega
   rw [h.out k (by omega)]
   exact hno k (by omega) (by omega)

theorem enF_ent {st : List StP} (ht : Tr st) : ∀ (f s : Nat) (a : Am) (p : Py), s < st.length → st.length - s ≤ f → p.act.length = 26 → (∀ j, s ≤ j → j < endAt st s → mem p.act j = false) → Ent st s p (enF st f s a p)
  | 0, s, a, p, hs, hf, hl, hno => by omega
  | f + 1, s, a, p, hs, hf, hl, hno => by
    obtain ⟨x, hx⟩ : ∃ x, st[s]? = some x := ⟨_, List.getElem?_eq_getElem hs⟩
    have hes := ht.end_gt hs
    have hlen := ht.wf.len
    have hkx : kindAt st s = x.kind := kindAt_at hx
    have hex : endAt st s = x.end_ := endAt_at hx
    have hP1 : ∀ o, ({ p with act := p.act.set s true, out := o } : Py).act.length = 26 := fun o => by show (p.act.set s true).length = 26; rw [List.length_set]; exact hl
    have hon : mem (p.act.set s true) s = true := mem_set_self (by omega) true
    have hne : ∀ j, j ≠ s → mem (p.act.set s true) j = mem p.act j := fun j hj => mem_set_ne (fun e => hj e.symm) true
    have hno1 : ∀ j, s < j → j < endAt st s → mem (p.act.set s true) j = false := fun j h1 h2 => by rw [hne j (by omega)]; exact hno j (by omega) h2
    by_cases h2 : x.kind = 2
    · rw [enF_and hx h2]
      -- the loop
      have hloop : ∀ (n i : Nat) (q : Py), i + n = endAt st s → s < i → q.act.length = 26 → q.mm = p.mm → (∀ j, (j < s ∨ endAt st s ≤ j) → mem q.act j = mem p.act j) → mem q.act s = true →
          (∀ c, c < i → outAt st c = (s : Int) → mem q.act c = true ∧ ∀ k, c ≤ k → k < endAt st c → Loc st q.act k) → (∀ c, i ≤ c → c < st.length → outAt st c = (s : Int) → ∀ k, c ≤ k → k < endAt st c → mem q.act k = false) →
          Ent st s p (itF (fun i q => if outAt st i = (s : Int) then enF st f i a q else q) n i q) := by
        intro n
        induction n with
        | zero =>
          intro i q hi hsi ql qm qo qs qd qn
          show Ent st s p q
          have hdone : ∀ c, c < st.length → outAt st c = (s : Int) → mem q.act c = true ∧ ∀ k, c ≤ k → k < endAt st c → Loc st q.act k := fun c c1 c2 => qd c (by have := ht.child c1 c2; omega) c2
          refine ⟨by omega, qm, qo, qs, ?_⟩
          intro k k1 k2
          by_cases hks : k = s
          · subst hks
            exact ⟨fun e => (by rw [qs] at e; cases e), fun _ e => (by omega), fun _ _ c c1 c2 => (hdone c c1 c2).1⟩
          · obtain ⟨c, c1, c2, c3, c4⟩ := ht.via hs k (by omega) k2
            exact (hdone c (by omega) c1).2 k c3 c4
        | succ n ih =>
          intro i q hi hsi ql qm qo qs qd qn
          show Ent st s p (itF _ n (i + 1) (if outAt st i = (s : Int) then enF st f i a q else q))
          have hil : i < st.length := by omega
          by_cases ho : outAt st i = (s : Int)
          · rw [if_pos ho]
            have hE := enF_ent ht f i a q hil (by omega) ql (fun j j1 j2 => qn i (Nat.le_refl _) hil ho j j1 j2)
            have hir := ht.child hil ho
            have hbi := ht.below hil hir.1 hir.2
            have hei := ht.end_gt hil
            refine ih (i + 1) _ (by omega) (by omega) (by rw [hE.len]; exact ql) (hE.mm.trans qm) ?_ ?_ ?_ ?_
            · intro j hj; rw [hE.out j (by omega)]; exact qo j hj
            · rw [hE.out s (Or.inl hir.1)]; exact qs
            · intro c c1 c2
              by_cases hci : c = i
              · subst hci; exact ⟨hE.on, hE.loc⟩
              · have hcl : c < st.length := by omega
                have hap := ht.apart hcl hil c2 ho (by omega)
                have hcc := ht.end_gt hcl
                obtain ⟨d1, d2⟩ := qd c (by omega) c2
                refine ⟨by rw [hE.out c (Or.inl (by omega))]; exact d1, fun k k1 k2 => ?_⟩
                refine (d2 k k1 k2).congr (hE.out k (Or.inl (by omega))) (fun m m1 m2 => ?_)
                have hm := ht.child m1 m2
                have : endAt st k ≤ endAt st c := by
                  by_cases e : k = c
                  · rw [e]; exact Nat.le_refl _
                  · exact (ht.below (k := k) (o := c) (by omega) (by omega) k2).1
                exact hE.out m (Or.inl (by omega))
            · intro c c1 c2 c3 k k1 k2
              have hap := ht.apart hil c2 ho c3 (by omega)
              rw [hE.out k (Or.inr (by omega))]
              exact qn c (by omega) c2 c3 k k1 k2
          · rw [if_neg ho]
            refine ih (i + 1) q (by omega) (by omega) ql qm qo qs ?_ ?_
            · intro c c1 c2
              by_cases hci : c = i
              · subst hci; exact absurd c2 ho
              · exact qd c (by omega) c2
            · intro c c1 c2 c3; exact qn c (by omega) c2 c3
      refine hloop (x.end_ - (s + 1)) (s + 1) { p with act := p.act.set s true, out := p.out ++ bls x.enter } (by omega) (by omega) (hP1 _) rfl (fun j hj => hne j (by omega)) hon ?_ ?_
      · intro c c1 c2
        have := ht.child (k := c) (by omega) c2
        omega
      · intro c c1 c2 c3 k k1 k2
        have hcr := ht.child c2 c3
        have hbc := ht.below c2 hcr.1 hcr.2
        exact hno1 k (by omega) (by omega)
    · by_cases h3 : x.kind = 1
      · rw [enF_or hx h3]
        have hin : s + 1 < endAt st s := by rw [hex]; exact ht.wf.inn s x hx (by omega)
        obtain ⟨c1, c2⟩ := chP_ch ht hs hin p.mm a
        have hcr := ht.child c1 c2
        have hbc := ht.below c1 hcr.1 hcr.2
        have hE := enF_ent ht f (chP st p.mm s a).1 (chP st p.mm s a).2 { p with act := p.act.set s true, out := p.out ++ bls x.enter } c1 (by omega) (hP1 _) (fun j j1 j2 => hno1 j (by omega) (by omega))
        obtain ⟨o1, o2⟩ := Ent.or ht hs c1 c2 (p := { p with act := p.act.set s true, out := p.out ++ bls x.enter }) hon (by rw [hkx]; exact h3) hno1 hE
        refine ⟨by rw [hE.len, hl]; exact hP1 _, hE.mm, fun j hj => ?_, ?_, o2⟩
        · rw [o1 j (by omega)]; exact hne j (by omega)
        · rw [o1 s (Or.inl (Nat.le_refl _))]; exact hon
      · rw [enF_leaf hx h2 h3]
        refine ⟨by rw [hl]; exact hP1 _, rfl, fun j hj => hne j (by omega), hon, ?_⟩
        intro i i1 i2
        by_cases his : i = s
        · subst his
          exact ⟨fun e => (by rw [hon] at e; cases e), fun _ e => (by omega), fun _ e => (by omega)⟩
        · have hout := hno1 i (by omega) i2
          refine ⟨fun _ k k1 k2 => ?_, fun e => (by rw [hout] at e; cases e), fun e => (by rw [hout] at e; cases e)⟩
          have hkr := ht.child k1 k2
          have hbi := ht.below (k := i) (o := s) (by omega) (by omega) i2
          exact hno1 k (by omega) (by omega)

theorem lvF_mem (st : List StP) (left : List Bool) : ∀ (k : Nat) (p : Py) (j : Nat), mem (lvF st left k p).act j = if j < k ∧ mem left j = true then false else mem p.act j
 | 0, p, j => by rw [lvF, if_neg (by omega)]
 | k + 1, p, j => by
  rw [lvF, lvF_mem st left k]
  by_cases h1 : j < k ∧ mem left j = true
  ·rw [if_pos h1, if_pos ⟨by omega, h1.2⟩]
  ·rw [if_neg h1]
   by_cases h2 : mem left k = true
   ·rw [if_pos h2]
    show mem (p.act.set k false) j = _
    by_cases h3 : k = j
    ·subst h3
     rw [if_pos ⟨by omega, h2⟩, mem_set]
     split
     ·rfl
     ·rename_i h4
      have : p.act[k]? = none := by
       rw [List.getElem?_eq_none_iff]
       by_cases h5 : k < p.act.length
       ·exact absurd ⟨rfl, h5⟩ h4
       ·omega
      unfold mem; rw [this]
    ·rw [mem_set_ne h3]
     rw [if_neg]
     rintro ⟨h4, h5⟩
     exact h1 ⟨by omega, h5⟩
   ·rw [if_neg h2, if_neg]
    rintro ⟨h4, h5⟩
    by_cases h6 : j = k
    ·subst h6; exact h2 h5
    ·exact h1 ⟨by omega, h5⟩
theorem mem_bel (act : List Bool) (o k i : Nat) (h : i < 26) : mem (belK act o k) i = (decide (o < i) && decide (i < k) && mem act i) := by
 conv => lhs; unfold mem
 simp [belK, h]
theorem mem_ge {l : List Bool} (hl : l.length = 26) {i : Nat} (h : mem l i = true) : i < 26 := by
 unfold mem at h
 cases e : l[i]? with
 | none => rw [e] at h; cases h
 | some v => have := (List.getElem?_eq_some_iff.1 e).1; omega

structure Lg (st : List StP) (act : List Bool) : Prop where
 rt : mem act 0 = true
 loc : ∀ i, i < st.length → Loc st act i
theorem Lg.up {st : List StP} {act : List Bool} (ht : Tr st) (h : Lg st act) {k : Nat} (hk : k < st.length) (ha : mem act k = true) : outAt st k = -1 ∨ ∃ j : Nat, outAt st k = (j : Int) ∧ j < st.length ∧ mem act j = true := by
 have h1 := ht.out_lt hk
 by_cases e : outAt st k = -1
 ·exact Or.inl e
 ·obtain ⟨j, hj⟩ : ∃ j : Nat, outAt st k = (j : Int) := ⟨(outAt st k).toNat, by omega⟩
  refine Or.inr ⟨j, hj, by omega, ?_⟩
  cases hm : mem act j with
  | true => rfl
  | false =>
   have := (h.loc j (by omega)).off hm k hk hj
   rw [this] at ha; cases ha
def ScOn (st : List StP) (act : List Bool) (t : TrQ) : Prop := scOf st t = -1 ∨ ∃ d : Nat, scOf st t = (d : Int) ∧ d < st.length ∧ kindAt st d = 1 ∧ mem act d = true
theorem scF_on {st : List StP} {act : List Bool} (ht : Tr st) (h : Lg st act) (ts : Nat) : ∀ (f : Nat) (s : Int), (s = -1 ∨ ∃ j : Nat, s = (j : Int) ∧ j < st.length ∧ mem act j = true) → scF st ts f s = -1 ∨ ∃ d : Nat, scF st ts f s = (d : Int) ∧ d < st.length ∧ kindAt st d = 1 ∧ mem act d = true
 | 0, s, _ => Or.inl rfl
 | f + 1, s, hs => by
  unfold scF
  rcases hs with hs | ⟨j, rfl, h1, h2⟩
  ·rw [if_pos hs]; exact Or.inl rfl
  ·rw [if_neg (by omega)]
   by_cases hc : (kindAt st (j : Int).toNat == 1 && isB st ts (j : Int).toNat) = true
   ·rw [if_pos hc]
    simp only [Bool.and_eq_true, beq_iff_eq, Int.toNat_natCast] at hc
    exact Or.inr ⟨j, rfl, h1, hc.1, h2⟩
   ·rw [if_neg hc]
    refine scF_on ht h ts f _ ?_
    rw [Int.toNat_natCast]
    exact h.up ht h1 h2
theorem scOn_of {st : List StP} {act : List Bool} (ht : Tr st) (h : Lg st act) {t : TrQ} (h1 : t.own < st.length) (h2 : mem act t.own = true) : ScOn st act t := scF_on ht h _ _ _ (h.up ht h1 h2)

theorem tkF_lg {st : List StP} (ht : Tr st) (t : TrQ) (p : Py) (hl : p.act.length = 26) (h : Lg st p.act) (hs : ScOn st p.act t) :
    Lg st (tkF st t p).act ∧ ∀ d : Nat, scOf st t = (d : Int) → ∀ j, ¬ (d < j ∧ j < endAt st d) → mem (tkF st t p).act j = mem p.act j := by
  have hlen := ht.wf.len
  have h0 := ht.s0
  have hact : ∀ left, (lvF st left st.length (rmF st left st.length p)).act.length = 26 := fun left => by rw [lvF_len, rmF_act]; exact hl
  have hm : ∀ left j, mem (lvF st left st.length (rmF st left st.length p)).act j = if j < st.length ∧ mem left j = true then false else mem p.act j := fun left j => by rw [lvF_mem, rmF_act]
  unfold tkF
  rcases hs with hs | ⟨d, hd, hdl, hk, hon⟩
  · have hf : fiOf st t = 0 := by unfold fiOf; rw [if_pos hs]
    have hL : lefB st p.act t = p.act := by unfold lefB; rw [if_pos hs]
    rw [hf, hL]
    have hE := enF_ent ht 26 0 ⟨t.ts, t.mark, -1⟩ { lvF st p.act st.length (rmF st p.act st.length p) with out := (lvF st p.act st.length (rmF st p.act st.length p)).out ++ bls t.acts } h0 (by omega) (hact _) (fun j j1 j2 => by
      show mem (lvF st p.act st.length (rmF st p.act st.length p)).act j = false
      rw [hm]
      have he := ht.te.e0
      by_cases e : mem p.act j = true
      · rw [if_pos ⟨by omega, e⟩]
      · rw [if_neg (fun x => e x.2)]; simpa using e)
    refine ⟨⟨hE.on, fun i hi => hE.loc i (Nat.zero_le _) (by rw [ht.te.e0]; exact hi)⟩, fun d hd => by omega⟩
  · have hin : d + 1 < endAt st d := by
      obtain ⟨x, hx⟩ : ∃ x, st[d]? = some x := ⟨_, List.getElem?_eq_getElem hdl⟩
      rw [endAt_at hx]
      exact ht.wf.inn d x hx (by rw [← kindAt_at hx, hk]; decide)
    have hne : ¬ scOf st t = -1 := by omega
    have hf : fiOf st t = inTo st d t.ts.toNat := by unfold fiOf; rw [if_neg hne, hd, Int.toNat_natCast]
    have hL : lefB st p.act t = belK p.act d (endAt st d) := by unfold lefB; rw [if_neg hne, hd, Int.toNat_natCast]; rfl
    rw [hf, hL]
    obtain ⟨c1, c2⟩ := inTo_ch ht hdl hin t.ts.toNat
    have hcr := ht.child c1 c2
    have hbc := ht.below c1 hcr.1 hcr.2
    have hed := ht.end_gt hdl
    have hin2 : ∀ j, d < j → j < endAt st d → mem (lvF st (belK p.act d (endAt st d)) st.length (rmF st (belK p.act d (endAt st d)) st.length p)).act j = false := by
      intro j j1 j2
      rw [hm]
      by_cases e : mem p.act j = true
      · rw [if_pos ⟨by omega, by rw [mem_bel _ _ _ _ (by omega)]; simp [j1, j2, e]⟩]
      · rw [if_neg]
        · simpa using e
        · rintro ⟨e1, e2⟩
          rw [mem_bel _ _ _ _ (by omega)] at e2
          simp [e] at e2
    have hout2 : ∀ j, ¬ (d < j ∧ j < endAt st d) → mem (lvF st (belK p.act d (endAt st d)) st.length (rmF st (belK p.act d (endAt st d)) st.length p)).act j = mem p.act j := by
      intro j hj
      rw [hm, if_neg]
      rintro ⟨e1, e2⟩
      rw [mem_bel _ _ _ _ (by omega)] at e2
      simp only [Bool.and_eq_true, decide_eq_true_eq] at e2
      exact hj e2.1
    have hL1 := hact (belK p.act d (endAt st d))
    generalize hP : ({ lvF st (belK p.act d (endAt st d)) st.length (rmF st (belK p.act d (endAt st d)) st.length p) with out := (lvF st (belK p.act d (endAt st d)) st.length (rmF st (belK p.act d (endAt st d)) st.length p)).out ++ bls t.acts } : Py) = P1
    have hPa : (lvF st (belK p.act d (endAt st d)) st.length (rmF st (belK p.act d (endAt st d)) st.length p)).act = P1.act := by rw [← hP]
    rw [hPa] at hin2 hout2 hL1
    clear hP hPa
    have hE := enF_ent ht 26 (inTo st d t.ts.toNat) ⟨t.ts, t.mark, -1⟩ P1 c1 (by omega) hL1 (fun j j1 j2 => hin2 j (by omega) (by omega))
    obtain ⟨o1, o2⟩ := Ent.or ht hdl c1 c2 (p := P1) (by rw [hout2 d (by omega)]; exact hon) hk hin2 hE
    generalize enF st 26 (inTo st d t.ts.toNat) ⟨t.ts, t.mark, -1⟩ P1 = q at *
    have hfr : ∀ j, ¬ (d < j ∧ j < endAt st d) → mem q.act j = mem p.act j := fun j hj => by
      rw [o1 j (by omega)]; exact hout2 j hj
    refine ⟨⟨by rw [hfr 0 (by omega)]; exact h.rt, fun i hi => ?_⟩, ?_⟩
    · by_cases hid : d ≤ i ∧ i < endAt st d
      · exact o2 i hid.1 hid.2
      · refine (h.loc i hi).congr (hfr i (by omega)) (fun k k1 k2 => hfr k ?_)
        rintro ⟨e1, e2⟩
        have h3 := ht.below k1 e1 e2
        have h4 := ht.child k1 k2
        omega
    · intro d' hd' j hj
      have : d' = d := by omega
      subst this
      exact hfr j hj


theorem fpo_at {th : List TrH} {act : List Bool} {s : Nat} {ev : UInt8} (h : fpo th act s ev ≠ -1) : ∃ (n : Nat) (t : TrH), fpo th act s ev = (n : Int) ∧ th[n]? = some t ∧ t.q.own = s := by
 unfold fpo at h ⊢
 rcases firstB_spec (posB th act s ev) th.length with ⟨h1, -⟩ | ⟨k, h1, h2, h3, -⟩
 ·rw [h1] at h; exact absurd rfl h
 ·rw [h1]
  unfold posB at h3
  split at h3
  ·rename_i t hx
   simp only [Bool.and_eq_true, beq_iff_eq] at h3
   exact ⟨k, t, rfl, hx, h3.1⟩
  ·cases h3
def OwnOn (st : List StP) (th : List TrH) (act : List Bool) (n : Nat) : Prop := ∃ t, th[n]? = some t ∧ t.q.own < st.length ∧ mem act t.q.own = true
theorem cfF_on {st : List StP} {th : List TrH} {act : List Bool} (ht : Tr st) (h : Lg st act) (ev : UInt8) : ∀ (f : Nat) (s : Int), (s = -1 ∨ ∃ j : Nat, s = (j : Int) ∧ j < st.length ∧ mem act j = true) → cfF st th act ev f s ≠ -1 → OwnOn st th act (cfF st th act ev f s).toNat
 | 0, s, _, hn => absurd rfl hn
 | f + 1, s, hs, hn => by
  unfold cfF at hn ⊢
  rcases hs with hs | ⟨j, rfl, h1, h2⟩
  ·rw [if_pos hs] at hn; exact absurd rfl hn
  ·rw [if_neg (by omega)] at hn ⊢
   rw [Int.toNat_natCast] at hn ⊢
   by_cases hc : fpo th act j ev ≠ -1
   ·rw [if_pos hc]
    obtain ⟨n, t, e1, e2, e3⟩ := fpo_at hc
    rw [e1, Int.toNat_natCast]
    exact ⟨t, e2, by rw [e3]; exact h1, by rw [e3]; exact h2⟩
   ·rw [if_neg hc] at hn ⊢
    exact cfF_on ht h ev f _ (h.up ht h1 h2) hn
theorem clK_on {st : List StP} {th : List TrH} {act : List Bool} (ht : Tr st) (h : Lg st act) (ev : UInt8) : ∀ k, k ≤ st.length → ∀ n ∈ clK st th act ev k, OwnOn st th act n
 | 0, _, n, hn => by simp [clK] at hn
 | k + 1, hk, n, hn => by
  rw [clK_succ] at hn
  unfold cl1 at hn
  split at hn
  ·rename_i h1
   split at hn
   ·rename_i h2
    rcases List.mem_append.1 hn with h3 | h3
    ·exact clK_on ht h ev k (by omega) n h3
    ·simp only [List.mem_cons, List.not_mem_nil, or_false] at h3
     subst h3
     exact cfF_on ht h ev _ _ (Or.inr ⟨k, rfl, by omega, h1.2⟩) h2.1
   ·exact clK_on ht h ev k (by omega) n hn
  ·exact clK_on ht h ev k (by omega) n hn
def lefN (st : List StP) (th : List TrH) (act : List Bool) (n : Nat) : List Bool := match th[n]? with | some t => lefB st act t.q | none => noSet
def Dis (st : List StP) (th : List TrH) (act : List Bool) (a b : Nat) : Prop := ∀ i, i < 26 → ¬ (mem (lefN st th act a) i = true ∧ mem (lefN st th act b) i = true)
theorem mts_no {l m : List Bool} (h : ¬ mts l m = true) : ∀ i, i < 26 → ¬ (mem l i = true ∧ mem m i = true) := by
 intro i hi
 unfold mts at h
 rcases firstB_spec (fun k => mem l k && mem m k) 26 with ⟨-, h2⟩ | ⟨k, h1, -⟩
 ·have := h2 i hi
  rintro ⟨a, b⟩
  rw [a, b] at this; cases this
 ·rw [h1] at h; exact absurd rfl h
theorem wcF_dis (st : List StP) (th : List TrH) (act : List Bool) : ∀ (ns : List Nat) (z : List Nat × List Bool), (∀ a ∈ z.1, ∀ i, i < 26 → mem (lefN st th act a) i = true → mem z.2 i = true) → z.1.Pairwise (Dis st th act) → (ns.foldl (wc1 st th act) z).1.Pairwise (Dis st th act)
 | [], z, h1, h2 => h2
 | k :: ns, z, h1, h2 => by
  rw [List.foldl_cons]
  unfold wc1
  split
  ·rename_i t hx
   have hL : lefN st th act k = lefB st act t.q := by unfold lefN; rw [hx]
   split
   ·exact wcF_dis st th act ns z h1 h2
   ·rename_i hm
    have hd := mts_no hm
    refine wcF_dis st th act ns _ ?_ ?_
    ·intro a ha i hi hmm
     show mem (unK z.2 (lefB st act t.q) 26) i = true
     rw [mem_unK _ _ _ _ hi, if_pos hi]
     rcases List.mem_append.1 ha with h3 | h3
     ·rw [h1 a h3 i hi hmm]; rfl
     ·simp only [List.mem_cons, List.not_mem_nil, or_false] at h3
      subst h3
      rw [hL] at hmm
      rw [hmm]; simp
    ·rw [List.pairwise_append]
     refine ⟨h2, List.pairwise_singleton _ _, ?_⟩
     intro a ha b hb
     simp only [List.mem_cons, List.not_mem_nil, or_false] at hb
     subst hb
     rintro i hi ⟨x1, x2⟩
     rw [hL] at x2
     exact hd i hi ⟨x2, h1 a ha i hi x1⟩
  ·exact wcF_dis st th act ns z h1 h2
def Apt (st : List StP) (th : List TrH) (a b : Nat) : Prop := ∀ ta tb, th[a]? = some ta → th[b]? = some tb → scOf st tb.q = -1 ∨ ∃ da db : Nat, scOf st ta.q = (da : Int) ∧ scOf st tb.q = (db : Int) ∧ ¬ (da < db ∧ db < endAt st da)
theorem apt_of {st : List StP} {th : List TrH} {act : List Bool} (ht : Tr st) (hl : act.length = 26) (h : Lg st act) {a b : Nat} (ha : OwnOn st th act a) (hb : OwnOn st th act b) (hd : Dis st th act a b) : Apt st th a b := by
 intro ta tb hta htb
 obtain ⟨ta', e1, e2, e3⟩ := ha
 obtain ⟨tb', f1, f2, f3⟩ := hb
 rw [hta] at e1
 rw [htb] at f1
 obtain rfl : ta = ta' := by injection e1
 obtain rfl : tb = tb' := by injection f1
 rcases scOn_of ht h f2 f3 with hsb | ⟨db, d1, d2, d3, d4⟩
 ·exact Or.inl hsb
 ·refine Or.inr ?_
  obtain ⟨c, c1, c2, c3, -⟩ := (h.loc db d2).one d4 d3
  have hcr := ht.child c1 c2
  have hc26 := mem_ge hl c3
  have hLb : mem (lefN st th act b) c = true := by
   unfold lefN lefB; rw [htb]
   simp only
   rw [if_neg (by omega), d1, Int.toNat_natCast]
   unfold actB
   rw [mem_bel _ _ _ _ hc26]; simp [hcr.1, hcr.2, c3]
  rcases scOn_of ht h e2 e3 with hsa | ⟨da, g1, g2, g3, g4⟩
  ·exfalso
   refine hd c hc26 ⟨?_, hLb⟩
   unfold lefN lefB; rw [hta]
   simp only
   rw [if_pos hsa]; exact c3
  ·refine ⟨da, db, g1, d1, ?_⟩
   rintro ⟨x1, x2⟩
   have hbb := ht.below d2 x1 x2
   refine hd c hc26 ⟨?_, hLb⟩
   unfold lefN lefB; rw [hta]
   simp only
   rw [if_neg (by omega), g1, Int.toNat_natCast]
   unfold actB
   rw [mem_bel _ _ _ _ hc26]
   have h5 : da < c := by omega
   have h6 : c < endAt st da := by omega
   simp [h5, h6, c3]
theorem fold_lg {st : List StP} {th : List TrH} (ht : Tr st) : ∀ (ns : List Nat) (p : Py), p.act.length = 26 → Lg st p.act → (∀ n ∈ ns, ∀ t, th[n]? = some t → ScOn st p.act t.q) → ns.Pairwise (Apt st th) → (ns.foldl (tk1 st th) p).act.length = 26 ∧ Lg st (ns.foldl (tk1 st th) p).act
 | [], p, hl, h, _, _ => ⟨hl, h⟩
 | n :: ns, p, hl, h, hs, hp => by
  rw [List.foldl_cons]
  rw [List.pairwise_cons] at hp
  cases hx : th[n]? with
  | none =>
   have e : tk1 st th p n = p := by unfold tk1; rw [hx]
   rw [e]
   exact fold_lg ht ns p hl h (fun m hm => hs m (by simp [hm])) hp.2
  | some t =>
   have e : tk1 st th p n = tkF st t.q p := by unfold tk1; rw [hx]
   rw [e]
   obtain ⟨h1, h2⟩ := tkF_lg ht t.q p hl h (hs n (by simp) t hx)
   refine fold_lg ht ns _ (by rw [tkF_alen]; exact hl) h1 ?_ hp.2
   intro m hm u hu
   have hold := hs m (by simp [hm]) u hu
   rcases hp.1 m hm t u hx hu with hc | ⟨da, db, q1, q2, q3⟩
   ·exact Or.inl hc
   ·rcases hold with hc | ⟨d, d1, d2, d3, d4⟩
    ·exact Or.inl hc
    ·refine Or.inr ⟨d, d1, d2, d3, ?_⟩
     have : d = db := by omega
     subst this
     rw [h2 da q1 d q3]; exact d4
theorem pairwise_impl {R S : Nat → Nat → Prop} : ∀ (l : List Nat), l.Pairwise R → (∀ a ∈ l, ∀ b ∈ l, R a b → S a b) → l.Pairwise S
 | [], _, _ => List.Pairwise.nil
 | a :: l, h, hi => by
  rw [List.pairwise_cons] at h ⊢
  exact ⟨fun b hb => hi a (by simp) b (by simp [hb]) (h.1 b hb), pairwise_impl l h.2 (fun x hx y hy => hi x (by simp [hx]) y (by simp [hy]))⟩
theorem evStep_lg {st : List StP} (th : List TrH) (ht : Tr st) (p : Py) (ev : UInt8) (hl : p.act.length = 26) (h : Lg st p.act) : (evStep st th p ev).act.length = 26 ∧ Lg st (evStep st th p ev).act := by
 unfold evStep spF
 have hin : ∀ n ∈ tkn st th p.act ev, OwnOn st th p.act n := by
  intro n hn
  rcases (wcF_in st th p.act (clL st th p.act ev) ([], noSet)).1 n hn with h3 | h3
  ·simp at h3
  ·exact clK_on ht h ev _ (Nat.le_refl _) n h3
 have hpw : (tkn st th p.act ev).Pairwise (Dis st th p.act) := wcF_dis st th p.act _ ([], noSet) (fun a ha => by simp at ha) List.Pairwise.nil
 refine fold_lg ht _ _ hl h ?_ (pairwise_impl _ hpw (fun a ha b hb hd => apt_of ht hl h (hin a ha) (hin b hb) hd))
 intro n hn t hx
 obtain ⟨t', e1, e2, e3⟩ := hin n hn
 rw [hx] at e1
 obtain rfl : t = t' := by injection e1
 exact scOn_of ht h e2 e3
theorem plK_lg {st : List StP} (th : List TrH) (ht : Tr st) (es : ByteArray) : ∀ k, (plK st th es k).act.length = 26 ∧ Lg st (plK st th es k).act
 | 0 => by
  have hlen := ht.wf.len
  have hE := enF_ent ht 26 0 Am.free py0 ht.s0 (by omega) rfl (fun j _ _ => mem_no j)
  exact ⟨hE.len, hE.on, fun i hi => hE.loc i (Nat.zero_le _) (by rw [ht.te.e0]; exact hi)⟩
 | k + 1 => evStep_lg th ht _ _ (plK_lg th ht es k).1 (plK_lg th ht es k).2
theorem un_lg {s : ByteArray} (h : (unE s).1 = 0) (es : ByteArray) : Tr (unSt s) ∧ (plQ s es).act.length = 26 ∧ Lg (unSt s) (plQ s es).act := by
 have hp := plan_ok s h
 have ht : Tr (unSt s) := ⟨hp.wf, un_tre h, hp.s0⟩
 exact ⟨ht, plK_lg (th0 s) ht es es.size⟩
end Go.Proofs.YtmolmbeeoecnfaaGreatDoor
