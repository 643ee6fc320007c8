/- Own work: the states that were read are a tree in text order. -/
import Derived.Test.YtmolmbeeoecnfaaPyZ7
namespace Go.Proofs.Ytmolmbeeoecnfaa
open Go.RowKit Go.BigFrame
set_option linter.unusedVariables false
set_option linter.unusedSimpArgs false

/-- States lo .. hi-1: trees one behind another, whose outermost states lie within p. -/
def Fo (st : List StP) (lo hi : Nat) (p : Int) : Prop := ∀ k, lo ≤ k → k < hi → endAt st k ≤ hi ∧ (outAt st k = p ∨ ∃ j : Nat, lo ≤ j ∧ outAt st k = (j : Int) ∧ k < endAt st j) ∧ ∀ j, lo ≤ j → j < k → k < endAt st j → endAt st k ≤ endAt st j ∧ (j : Int) ≤ outAt st k
theorem Fo.nil (st : List StP) (lo : Nat) (p : Int) : Fo st lo lo p := fun k h1 h2 => by omega
theorem Fo.congr {st st' : List StP} {lo hi : Nat} {p : Int} (h : Fo st lo hi p) (he : ∀ k, lo ≤ k → k < hi → endAt st' k = endAt st k ∧ outAt st' k = outAt st k) (ho : ∀ k, lo ≤ k → k < hi → outAt st k < (k : Int)) : Fo st' lo hi p := by
  intro k h1 h2
  obtain ⟨a1, a2, a3⟩ := h k h1 h2
  have e := he k h1 h2
  rw [e.1, e.2]
  refine ⟨a1, ?_, ?_⟩
  · rcases a2 with a2 | ⟨j, b1, b2, b3⟩
    · exact Or.inl a2
    · have := ho k h1 h2
      exact Or.inr ⟨j, b1, b2, by rw [(he j b1 (by omega)).1]; exact b3⟩
  · intro j b1 b2 b3
    rw [(he j b1 (by omega)).1] at b3 ⊢
    exact a3 j b1 b2 b3
theorem Fo.app {st : List StP} {lo mid hi : Nat} {p : Int} (h1 : lo ≤ mid) (h2 : mid ≤ hi) (h : Fo st lo mid p) (g : Fo st mid hi p) : Fo st lo hi p := by
  intro k k1 k2
  by_cases hk : k < mid
  · obtain ⟨a1, a2, a3⟩ := h k k1 hk
    exact ⟨by omega, a2, a3⟩
  · obtain ⟨a1, a2, a3⟩ := g k (by omega) k2
    refine ⟨a1, ?_, ?_⟩
    · rcases a2 with a2 | ⟨j, b1, b2, b3⟩
      · exact Or.inl a2
      · exact Or.inr ⟨j, by omega, b2, b3⟩
    · intro j b1 b2 b3
      by_cases hj : j < mid
      · have := (h j b1 hj).1; omega
      · exact a3 j (by omega) b2 b3
theorem Fo.up {st : List StP} {n hi : Nat} {p : Int} (hn : n < hi) (h : Fo st (n + 1) hi (n : Int)) (he : endAt st n = hi) (ho : outAt st n = p) : Fo st n hi p := by
  intro k k1 k2
  by_cases hk : k = n
  · subst hk
    exact ⟨by omega, Or.inl ho, fun j a b => by omega⟩
  · obtain ⟨a1, a2, a3⟩ := h k (by omega) k2
    refine ⟨a1, Or.inr ?_, ?_⟩
    · rcases a2 with a2 | ⟨j, b1, b2, b3⟩
      · exact ⟨n, Nat.le_refl _, a2, by omega⟩
      · exact ⟨j, by omega, b2, b3⟩
    · intro j b1 b2 b3
      by_cases hj : j = n
      · subst hj
        refine ⟨by omega, ?_⟩
        rcases a2 with a2 | ⟨i, c1, c2, c3⟩
        · omega
        · omega
      · exact a3 j (by omega) b2 b3
/-- What was read between r and q, within p. -/
structure FoR (r q : Rn) (p : Int) : Prop where
  pre : r.st <+: q.st
  fo : Fo q.st r.st.length q.st.length p
  ou : ∀ k, r.st.length ≤ k → k < q.st.length → outAt q.st k < (k : Int)
theorem at_pre {l m : List StP} (h : l <+: m) {k : Nat} (hk : k < l.length) : endAt m k = endAt l k ∧ outAt m k = outAt l k := by
  unfold endAt outAt; rw [pre_get h hk]; exact ⟨rfl, rfl⟩
theorem FoR.refl (r : Rn) (p : Int) : FoR r r p := ⟨List.prefix_refl _, Fo.nil _ _ _, fun k a b => by omega⟩
theorem FoR.trans {r q z : Rn} {p : Int} (h : FoR r q p) (g : FoR q z p) : FoR r z p where
  pre := h.pre.trans g.pre
  fo := Fo.app h.pre.length_le g.pre.length_le (h.fo.congr (fun k _ hk => at_pre g.pre hk) h.ou) g.fo
  ou := fun k a b => by
    by_cases hk : k < q.st.length
    · rw [(at_pre g.pre hk).2]; exact h.ou k a hk
    · exact g.ou k (by omega) b
theorem riF_fo (s : ByteArray) (g : Rn → Bool × Rn) (p : Int) (m : Nat) (hgo : ∀ q, RdInv s q → m ≤ q.i → (g q).1 = true → GoesR s q (g q).2) (L : Nat) (hg : ∀ q, RdInv s q → m ≤ q.i → L ≤ q.st.length → (g q).1 = true → FoR q (g q).2 p) : ∀ (f n : Nat) (r : Rn), RdInv s r → m ≤ r.i → L ≤ r.st.length → (riF s g f n r).1 = true → FoR r (riF s g f n r).2.2 p
  | 0, n, r, h, hm, hL, _ => FoR.refl _ _
  | f + 1, n, r, h, hm, hL, hk => by
    simp only [riF] at hk ⊢
    split at hk
    · rename_i hN
      rw [if_pos hN]
      split at hk
      · rename_i hok
        rw [if_pos hok]
        have hq := hgo r h hm hok
        have hs := hg r h hm hL hok
        have := hq.i
        have := hs.pre.length_le
        exact hs.trans (riF_fo s g p m hgo L hg f (n + 1) (g r).2 hq.inv (by omega) (by omega) hk)
      · cases hk
    · rename_i hN
      rw [if_neg hN]
      exact FoR.refl _ _
theorem riP_fo (s : ByteArray) (g : Rn → Bool × Rn) (p : Int) (fin : UInt8) (least : Nat) (L : Nat) (r : Rn) (hi : RdInv s r) (hn : r.i < s.size) (hL : L ≤ r.st.length) (hgo : ∀ q, RdInv s q → r.i + 1 ≤ q.i → (g q).1 = true → GoesR s q (g q).2) (hg : ∀ q, RdInv s q → r.i + 1 ≤ q.i → L ≤ q.st.length → (g q).1 = true → FoR q (g q).2 p) (hk : (riP s g fin least r).1 = true) :
    FoR r (riP s g fin least r).2 p := by
  have h1 : RdInv s { r with i := r.i + 1 } := ⟨hn, by have := hi.2.1; simp only; omega, by have := hi.2.2; simp only; omega⟩
  unfold riP at hk ⊢
  split at hk
  · cases hk
  · rename_i hL2
    rw [if_neg hL2]
    split at hk
    · cases hk
    · rename_i hc
      rw [if_neg hc]
      have h9 : (riL s g 0 { r with i := r.i + 1 }).1 = true := by simpa using hL2
      have h2 := riF_fo s g p (r.i + 1) hgo L hg (s.size - (r.i + 1)) 0 { r with i := r.i + 1 } h1 (Nat.le_refl _) hL h9
      exact ⟨h2.pre, h2.fo, h2.ou⟩
/-- What a state's reading leaves. -/
theorem rsF_fo (s : ByteArray) : ∀ (f : Nat) (r : Rn) (outer : Int) (depth : Nat), RdInv s r → s.size - r.i < f → outer < (r.st.length : Int) → (rsF s f r outer depth).1 = true → FoR r (rsF s f r outer depth).2 outer ∧ r.st.length < (rsF s f r outer depth).2.st.length ∧ endAt (rsF s f r outer depth).2.st r.st.length = (rsF s f r outer depth).2.st.length
  | 0, r, _, _, h, hf, _, _ => by omega
  | f + 1, r, outer, depth, h, hf, ho2, hk => by
    simp only [rsF] at hk ⊢
    split at hk
    · cases hk
    · rename_i hN
      rw [if_neg hN]
      have hN' : isN (byte s r.i) = true := by simpa using hN
      have hin := isN_b s r.i hN'
      split at hk
      · cases hk
      · rename_i h43
        rw [if_neg h43]
        split at hk
        · cases hk
        · rename_i h45
          rw [if_neg h45]
          have b1 := abI_bd s 43 (r.i + 1) (by decide) hin
          have b2 := abI_bd s 45 (abI s 43 (r.i + 1)) (by decide) b1.2
          obtain ⟨a1, a2, a3⟩ := h
          have hr3 : RdInv s (rs3 s r.st.length (rs1 s r outer depth)) := by
            refine ⟨b2.2, ?_, ?_⟩
            · show (((r.st ++ [_]).modify _ _).modify _ _).length ≤ abI s 45 (abI s 43 (r.i + 1))
              simp only [List.length_modify, List.length_append, List.length_cons, List.length_nil]
              omega
            · show r.tr.length ≤ abI s 45 (abI s 43 (r.i + 1))
              omega
          have i3 : r.i + 1 ≤ (rs3 s r.st.length (rs1 s r outer depth)).i := by show r.i + 1 ≤ abI s 45 (abI s 43 (r.i + 1)); omega
          obtain ⟨x3, hx3, hX3⟩ : ∃ x3 : StP, (rs3 s r.st.length (rs1 s r outer depth)).st = r.st ++ [x3] ∧ x3.outer = outer := by
            refine ⟨⟨byte s r.i, r.i, depth, 0, outer, 0, abS s 43 (r.i + 1), abS s 45 (abI s 43 (r.i + 1)), false, false⟩, ?_, rfl⟩
            show ((r.st ++ [_]).modify r.st.length _).modify r.st.length _ = _
            rw [modify_lastQ, modify_lastQ]
            rfl
          generalize rs3 s r.st.length (rs1 s r outer depth) = q3 at *
          have hGo : ∀ q, RdInv s q → q3.i + 1 ≤ q.i → (rsF s f q (r.st.length : Nat) (depth + 1)).1 = true → GoesR s q (rsF s f q (r.st.length : Nat) (depth + 1)).2 := fun q hq hqi hqk => rsF_goes s f q _ _ hq (by omega) hqk
          have hG : ∀ q, RdInv s q → q3.i + 1 ≤ q.i → r.st.length + 1 ≤ q.st.length → (rsF s f q (r.st.length : Nat) (depth + 1)).1 = true → FoR q (rsF s f q (r.st.length : Nat) (depth + 1)).2 (r.st.length : Nat) := fun q hq hqi hql hqk => (rsF_fo s f q _ _ hq (by omega) (by omega) hqk).1
          have h4 : (rs4 s (fun q => rsF s f q (r.st.length : Nat) (depth + 1)) r.st.length q3).1 = true → ∃ x4 : StP, ∃ i4 t4, x4.outer = outer ∧ FoR ⟨i4, r.st ++ [x4], t4⟩ (rs4 s (fun q => rsF s f q (r.st.length : Nat) (depth + 1)) r.st.length q3).2 (r.st.length : Nat) := by
            have hset : ∀ kk, (setKP q3 r.st.length kk).st = r.st ++ [{ x3 with kind := kk }] := by
              intro kk
              show q3.st.modify _ _ = _
              rw [hx3, modify_lastQ]
            have hone : ∀ fin kk least, q3.i < s.size → (riP s (fun q => rsF s f q (r.st.length : Nat) (depth + 1)) fin least (setKP q3 r.st.length kk)).1 = true → ∃ x4 : StP, ∃ i4 t4, x4.outer = outer ∧ FoR ⟨i4, r.st ++ [x4], t4⟩ (riP s (fun q => rsF s f q (r.st.length : Nat) (depth + 1)) fin least (setKP q3 r.st.length kk)).2 (r.st.length : Nat) := by
              intro fin kk least hi hk4
              have hlen : (setKP q3 r.st.length kk).st.length = r.st.length + 1 := by rw [hset]; simp
              have hh := riP_fo s _ (r.st.length : Nat) fin least (r.st.length + 1) (setKP q3 r.st.length kk) ⟨hr3.1, by simp [setKP]; exact hr3.2.1, hr3.2.2⟩ hi (by omega) hGo hG hk4
              refine ⟨{ x3 with kind := kk }, (setKP q3 r.st.length kk).i, (setKP q3 r.st.length kk).tr, hX3, ?_⟩
              have e : setKP q3 r.st.length kk = ⟨(setKP q3 r.st.length kk).i, r.st ++ [{ x3 with kind := kk }], (setKP q3 r.st.length kk).tr⟩ := by
                have e1 := hset kk
                rw [← e1]
              rw [e] at hh ⊢
              exact hh
            unfold rs4
            intro hk4
            split
            · rename_i hc
              rw [if_pos hc] at hk4
              exact hone 41 1 1 (sg_in s 40 q3.i (by decide) hc) hk4
            · rename_i hc
              rw [if_neg hc] at hk4
              split
              · rename_i hc2
                rw [if_pos hc2] at hk4
                exact hone 93 2 2 (sg_in s 91 q3.i (by decide) hc2) hk4
              · refine ⟨x3, q3.i, q3.tr, hX3, ?_⟩
                have e : q3 = ⟨q3.i, r.st ++ [x3], q3.tr⟩ := by rw [← hx3]
                rw [← e]
                exact FoR.refl q3 _
          generalize rs4 s (fun q => rsF s f q (r.st.length : Nat) (depth + 1)) r.st.length q3 = q4 at *
          unfold rs5 at hk ⊢
          split at hk
          · rename_i e; rw [e] at hk; cases hk
          · rename_i e
            rw [if_neg e]
            obtain ⟨x4, i4, t4, hX4, hS4⟩ := h4 (by simpa using e)
            have hz := rtF_trs s r.st.length _ _ hk
            have hst : (rtL s r.st.length (setEP q4.2 r.st.length q4.2.st.length)).2.st = q4.2.st.modify r.st.length (fun x => { x with end_ := q4.2.st.length }) := hz.1
            have hpl := hS4.pre.length_le
            simp only [List.length_append, List.length_cons, List.length_nil] at hpl
            have hlen : (rtL s r.st.length (setEP q4.2 r.st.length q4.2.st.length)).2.st.length = q4.2.st.length := by rw [hst, List.length_modify]
            have h0 : q4.2.st[r.st.length]? = some x4 := by rw [pre_get hS4.pre (by simp)]; simp
            have hown : (rtL s r.st.length (setEP q4.2 r.st.length q4.2.st.length)).2.st[r.st.length]? = some { x4 with end_ := q4.2.st.length } := by
              rw [hst, List.getElem?_modify, h0]; simp
            have hoth : ∀ k, r.st.length + 1 ≤ k → (rtL s r.st.length (setEP q4.2 r.st.length q4.2.st.length)).2.st[k]? = q4.2.st[k]? := by
              intro k hk
              rw [hst, List.getElem?_modify]
              cases q4.2.st[k]? with
              | none => rfl
              | some y => simp; intro h; omega
            have hoE : ∀ k, r.st.length + 1 ≤ k → endAt (rtL s r.st.length (setEP q4.2 r.st.length q4.2.st.length)).2.st k = endAt q4.2.st k ∧ outAt (rtL s r.st.length (setEP q4.2 r.st.length q4.2.st.length)).2.st k = outAt q4.2.st k := by
              intro k hk; unfold endAt outAt; rw [hoth k hk]; exact ⟨rfl, rfl⟩
            have hfo := hS4.fo
            have hou := hS4.ou
            simp only [List.length_append, List.length_cons, List.length_nil] at hfo hou
            have hE : endAt (rtL s r.st.length (setEP q4.2 r.st.length q4.2.st.length)).2.st r.st.length = q4.2.st.length := by unfold endAt; rw [hown]
            have hO : outAt (rtL s r.st.length (setEP q4.2 r.st.length q4.2.st.length)).2.st r.st.length = outer := by unfold outAt; rw [hown]; exact hX4
            refine ⟨⟨?_, ?_, ?_⟩, by omega, by rw [hE, hlen]⟩
            · rw [hst]
              exact prefix_modify _ _ _ _ ((List.prefix_append _ _).trans hS4.pre) (Nat.le_refl _)
            · rw [hlen]
              exact Fo.up (by omega) (hfo.congr (fun k a b => hoE k a) hou) hE hO
            · intro k hkk hk2
              rw [hlen] at hk2
              by_cases hke : k = r.st.length
              · subst hke; rw [hO]; exact ho2
              · rw [(hoE k (by omega)).2]; exact hou k (by omega) hk2
/-- The states of a right chart. -/
structure Tre (st : List StP) : Prop where
  fo : Fo st 0 st.length (-1)
  e0 : endAt st 0 = st.length
  o0 : outAt st 0 = -1
theorem Sm.at {st0 st : List StP} (h : Sm st0 st) (k : Nat) : endAt st k = endAt st0 k ∧ outAt st k = outAt st0 k := by
  unfold endAt outAt
  cases h1 : st[k]? with
  | none =>
    have : st0[k]? = none := by
      rw [List.getElem?_eq_none_iff] at h1 ⊢
      rw [← h.1]; exact h1
    rw [this]; exact ⟨rfl, rfl⟩
  | some x =>
    obtain ⟨y, hy, hs⟩ := h.2 k x h1
    rw [hy]; exact ⟨hs.e, hs.o⟩
theorem un_sm {s : ByteArray} (h : (unE s).1 = 0) : Sm (rcR s).2.st (unSt s) := by
  obtain ⟨h160, hK, hw, hv, hm⟩ := unE_ok h
  refine Sm.fold _ _ (Sm.refl _) ?_
  intro t ht
  unfold mrk at hm
  cases hf : ((rcR s).2.tr.map (resQ (rcR s).2.st)).find? (badM (rcR s).2.st) with
  | some x => rw [hf] at hm; simp only at hm; omega
  | none => simpa using List.find?_eq_none.1 hf t ht
theorem un_tre {s : ByteArray} (h : (unE s).1 = 0) : Tre (unSt s) := by
  obtain ⟨h160, hK, hw, hv, hm⟩ := unE_ok h
  have hok : (rcR s).1 = true := by
    simp only [rcK, Bool.and_eq_true] at hK
    exact hK.1
  have hI0 : RdInv s R0 := ⟨Nat.zero_le _, Nat.le_refl _, Nat.le_refl _⟩
  have hf := rsF_fo s (s.size + 1) R0 (-1) 1 hI0 (by show s.size - 0 < _; omega) (by show (-1 : Int) < ((0 : Nat) : Int); omega) hok
  have hF : FoR R0 (rcR s).2 (-1) := hf.1
  have hE : endAt (rcR s).2.st 0 = (rcR s).2.st.length := hf.2.2
  have hP : 0 < (rcR s).2.st.length := hf.2.1
  have hS := un_sm h
  have hl := hS.1
  refine ⟨?_, ?_, ?_⟩
  · rw [hl]
    exact hF.fo.congr (fun k _ _ => hS.at k) hF.ou
  · rw [(hS.at 0).1, hl]; exact hE
  · rw [(hS.at 0).2]
    have h1 := hF.ou 0 (Nat.le_refl _) hP
    rcases (hF.fo 0 (Nat.le_refl _) hP).2.1 with h2 | ⟨j, -, h2, -⟩
    · exact h2
    · omega
end Go.Proofs.Ytmolmbeeoecnfaa
