/- Own work: the shape of what the program's reader has read: a state. -/
import Derived.Test.YtmolmbeeoecnfaaPyP
namespace Go.Proofs.Ytmolmbeeoecnfaa
open Go.RowKit Go.BigFrame
set_option linter.unusedVariables false
set_option linter.unusedSimpArgs false

theorem modify_lastQ {α : Type} (f : α → α) : ∀ (l : List α) (x : α), (l ++ [x]).modify l.length f = l ++ [f x]
  | [], x => rfl
  | a :: l, x => by
    show a :: (l ++ [x]).modify l.length f = _
    rw [modify_lastQ f l x]; rfl
/-- The state that is read, ahead of its end. -/
structure X4 (s : ByteArray) (own : Nat) (outer : Int) (n : Nat) (x : StP) : Prop where
  ou : x.outer = outer
  en : x.enter.size ≤ s.size
  le : x.leave.size ≤ s.size
  nm : isN x.name = true
  rm : x.rem = false
  kd : x.kind ≠ 0 → own + 1 < n
theorem rsF_shp (s : ByteArray) : ∀ (f : Nat) (r : Rn) (outer : Int) (depth : Nat), RdInv s r → s.size - r.i < f → -1 ≤ outer → outer < (r.st.length : Int) → (rsF s f r outer depth).1 = true → Shp s r (rsF s f r outer depth).2 ∧ r.st.length < (rsF s f r outer depth).2.st.length
  | 0, r, _, _, h, hf, _, _, _ => by omega
  | f + 1, r, outer, depth, h, hf, ho1, ho2, hk => by
    simp only [rsF] at hk ⊢
    split at hk
    · cases hk
    · rename_i hN
      rw [if_neg hN]
      have hN' : isN (byte s r.i) = true := by simpa using hN
      have hin := isN_b s r.i hN'
      split at hk
      · cases hk
      · rename_i h43
        rw [if_neg h43]
        split at hk
        · cases hk
        · rename_i h45
          rw [if_neg h45]
          have b1 := abI_bd s 43 (r.i + 1) (by decide) hin
          have b2 := abI_bd s 45 (abI s 43 (r.i + 1)) (by decide) b1.2
          obtain ⟨a1, a2, a3⟩ := h
          have hr3 : RdInv s (rs3 s r.st.length (rs1 s r outer depth)) := by
            refine ⟨b2.2, ?_, ?_⟩
            · show (((r.st ++ [_]).modify _ _).modify _ _).length ≤ abI s 45 (abI s 43 (r.i + 1))
              simp only [List.length_modify, List.length_append, List.length_cons, List.length_nil]
              omega
            · show r.tr.length ≤ abI s 45 (abI s 43 (r.i + 1))
              omega
          have i3 : r.i + 1 ≤ (rs3 s r.st.length (rs1 s r outer depth)).i := by show r.i + 1 ≤ abI s 45 (abI s 43 (r.i + 1)); omega
          have t3 : (rs3 s r.st.length (rs1 s r outer depth)).tr = r.tr := rfl
          obtain ⟨x3, hx3, hX3⟩ : ∃ x3, (rs3 s r.st.length (rs1 s r outer depth)).st = r.st ++ [x3] ∧ x3.kind = 0 ∧ X4 s r.st.length outer 0 x3 := by
            refine ⟨⟨byte s r.i, r.i, depth, 0, outer, 0, abS s 43 (r.i + 1), abS s 45 (abI s 43 (r.i + 1)), false, false⟩, ?_, rfl, ⟨rfl, abS_le _ _ _, abS_le _ _ _, hN', rfl, fun h => absurd rfl h⟩⟩
            show ((r.st ++ [_]).modify r.st.length _).modify r.st.length _ = _
            rw [modify_lastQ, modify_lastQ]
            rfl
          generalize rs3 s r.st.length (rs1 s r outer depth) = q3 at *
          have hGo : ∀ q, RdInv s q → q3.i + 1 ≤ q.i → (rsF s f q (r.st.length : Nat) (depth + 1)).1 = true → GoesR s q (rsF s f q (r.st.length : Nat) (depth + 1)).2 := fun q hq hqi hqk => rsF_goes s f q _ _ hq (by omega) hqk
          have hG : ∀ q, RdInv s q → q3.i + 1 ≤ q.i → r.st.length + 1 ≤ q.st.length → (rsF s f q (r.st.length : Nat) (depth + 1)).1 = true → Shp s q (rsF s f q (r.st.length : Nat) (depth + 1)).2 ∧ q.st.length < (rsF s f q (r.st.length : Nat) (depth + 1)).2.st.length := fun q hq hqi hql hqk => rsF_shp s f q _ _ hq (by omega) (by omega) (by omega) hqk
          have h4 : (rs4 s (fun q => rsF s f q (r.st.length : Nat) (depth + 1)) r.st.length q3).1 = true → ∃ x4 i4, X4 s r.st.length outer (rs4 s (fun q => rsF s f q (r.st.length : Nat) (depth + 1)) r.st.length q3).2.st.length x4 ∧ Shp s ⟨i4, r.st ++ [x4], r.tr⟩ (rs4 s (fun q => rsF s f q (r.st.length : Nat) (depth + 1)) r.st.length q3).2 := by
            have hset : ∀ kk, (setKP q3 r.st.length kk).st = r.st ++ [{ x3 with kind := kk }] := by
              intro kk
              show q3.st.modify _ _ = _
              rw [hx3, modify_lastQ]
            have hone : ∀ fin kk least, (hl : 1 ≤ least) → q3.i < s.size → (riP s (fun q => rsF s f q (r.st.length : Nat) (depth + 1)) fin least (setKP q3 r.st.length kk)).1 = true → ∃ x4 i4, X4 s r.st.length outer (riP s (fun q => rsF s f q (r.st.length : Nat) (depth + 1)) fin least (setKP q3 r.st.length kk)).2.st.length x4 ∧ Shp s ⟨i4, r.st ++ [x4], r.tr⟩ (riP s (fun q => rsF s f q (r.st.length : Nat) (depth + 1)) fin least (setKP q3 r.st.length kk)).2 := by
              intro fin kk least hl hi hk4
              have hlen : (setKP q3 r.st.length kk).st.length = r.st.length + 1 := by rw [hset]; simp
              have hh := riP_shp s _ fin least hl (r.st.length + 1) (setKP q3 r.st.length kk) ⟨hr3.1, by simp [setKP]; exact hr3.2.1, hr3.2.2⟩ hi (by omega) hGo hG hk4
              refine ⟨{ x3 with kind := kk }, (setKP q3 r.st.length kk).i, ⟨hX3.2.ou, hX3.2.en, hX3.2.le, hX3.2.nm, hX3.2.rm, fun _ => by have := hh.2; omega⟩, ?_⟩
              have e : setKP q3 r.st.length kk = ⟨(setKP q3 r.st.length kk).i, r.st ++ [{ x3 with kind := kk }], r.tr⟩ := by
                have e1 := hset kk
                have e2 : (setKP q3 r.st.length kk).tr = r.tr := t3
                rw [← e1, ← e2]
              have h5 := hh.1
              rw [e] at h5 ⊢
              exact h5
            unfold rs4
            intro hk4
            split
            · rename_i hc
              rw [if_pos hc] at hk4
              exact hone 41 1 1 (by decide) (sg_in s 40 q3.i (by decide) hc) hk4
            · rename_i hc
              rw [if_neg hc] at hk4
              split
              · rename_i hc2
                rw [if_pos hc2] at hk4
                exact hone 93 2 2 (by decide) (sg_in s 91 q3.i (by decide) hc2) hk4
              · refine ⟨x3, q3.i, ⟨hX3.2.ou, hX3.2.en, hX3.2.le, hX3.2.nm, hX3.2.rm, fun h => absurd hX3.1 h⟩, ?_⟩
                have e : q3 = ⟨q3.i, r.st ++ [x3], r.tr⟩ := by rw [← hx3, ← t3]
                rw [← e]
                exact Shp.refl s q3
          generalize rs4 s (fun q => rsF s f q (r.st.length : Nat) (depth + 1)) r.st.length q3 = q4 at *
          unfold rs5 at hk ⊢
          split at hk
          · rename_i e; rw [e] at hk; cases hk
          · rename_i e
            rw [if_neg e]
            obtain ⟨x4, i4, hX4, hS4⟩ := h4 (by simpa using e)
            have hz := rtF_trs s r.st.length _ _ hk
            have hst : (rtL s r.st.length (setEP q4.2 r.st.length q4.2.st.length)).2.st = q4.2.st.modify r.st.length (fun x => { x with end_ := q4.2.st.length }) := hz.1
            have htr := hz.2
            have hpl := hS4.pre.length_le
            simp only [List.length_append, List.length_cons, List.length_nil] at hpl
            have hlen : (rtL s r.st.length (setEP q4.2 r.st.length q4.2.st.length)).2.st.length = q4.2.st.length := by rw [hst, List.length_modify]
            have h0 : q4.2.st[r.st.length]? = some x4 := by rw [pre_get hS4.pre (by simp)]; simp
            refine ⟨⟨?_, ?_, ?_⟩, by omega⟩
            · rw [hst]
              exact prefix_modify _ _ _ _ ((List.prefix_append _ _).trans hS4.pre) (Nat.le_refl _)
            · intro k x hkk hx
              rw [hlen]
              rw [hst, List.getElem?_modify] at hx
              by_cases hke : r.st.length = k
              · subst hke
                rw [h0] at hx
                simp only [if_pos, Option.map_eq_map, Option.map_some, Option.some.injEq] at hx
                subst hx
                exact ⟨by show _ < q4.2.st.length; omega, Nat.le_refl _, by show -1 ≤ x4.outer; rw [hX4.ou]; exact ho1, by show x4.outer < _; rw [hX4.ou]; exact ho2, hX4.kd, hX4.en, hX4.le, hX4.nm, hX4.rm⟩
              · have hx2 : q4.2.st[k]? = some x := by
                  cases h6 : q4.2.st[k]? with
                  | none => rw [h6] at hx; simp at hx
                  | some y => rw [h6] at hx; simp [hke] at hx; rw [hx]
                exact hS4.each k x (by simp; omega) hx2
            · intro t ht
              rcases htr t ht with h7 | h7
              · have h8 : t ∈ q4.2.tr := h7
                rcases hS4.trs t h8 with h9 | h9
                · exact Or.inl h9
                · exact Or.inr ⟨by rw [hlen]; exact h9.1, h9.2⟩
              · exact Or.inr ⟨by rw [hlen, h7.1]; omega, h7.2⟩
end Go.Proofs.Ytmolmbeeoecnfaa
