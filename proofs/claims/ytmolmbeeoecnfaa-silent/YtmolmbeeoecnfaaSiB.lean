/- Own work: a chart's text without its actions is read alike: states, the whole text. -/
import Derived.Test.YtmolmbeeoecnfaaSiA
namespace Go.Proofs.Ytmolmbeeoecnfaa
open Go.RowKit Go.BigFrame
set_option linter.unusedVariables false
set_option linter.unusedSimpArgs false

theorem Gd.of_kp {s : ByteArray} {i : Nat} (h0 : i < s.size) (h : kp (byte s i) = true) (hm : isMk (byte s i) = false) : Gd s i := ⟨KE.lt h0 h, hm⟩
theorem ri_strip (s : ByteArray) (g g' : Rn → Bool × Rn) (m m' : Nat) (hgo : ∀ q, RdInv s q → m ≤ q.i → (g q).1 = true → GoesR s q (g q).2)
    (hgo' : ∀ q, RdInv (strp s) q → m' ≤ q.i → (g' q).1 = true → GoesR (strp s) q (g' q).2)
    (hgg : ∀ q q', Rl s q q' → RdInv s q → RdInv (strp s) q' → m ≤ q.i → m' ≤ q'.i → (g q).1 = true → Gd s (g q).2.i → (g' q').1 = true ∧ Rl s (g q).2 (g' q').2) :
    ∀ (k n : Nat) (r r' : Rn), s.size - r.i ≤ k → Rl s r r' → RdInv s r → RdInv (strp s) r' → m ≤ r.i → m' ≤ r'.i → (riL s g n r).1 = true → Gd s (riL s g n r).2.2.i →
      (riL (strp s) g' n r').1 = true ∧ (riL (strp s) g' n r').2.1 = (riL s g n r).2.1 ∧ Rl s (riL s g n r).2.2 (riL (strp s) g' n r').2.2 := by
  intro k
  induction k with
  | zero =>
    intro n r r' hk hR hI hI' hm hm' hok hG
    have hb : isN (byte s r.i) = false := by
      cases e : isN (byte s r.i) with
      | false => rfl
      | true => have := isN_b s r.i e; omega
    rw [riL_stop s g n r hb] at hG ⊢
    rw [riL_stop (strp s) g' n r' (by rw [hR.i, hG.1.at]; exact hb)]
    exact ⟨rfl, rfl, hR⟩
  | succ k ih =>
    intro n r r' hk hR hI hI' hm hm' hok hG
    cases hb : isN (byte s r.i) with
    | false =>
      rw [riL_stop s g n r hb] at hG ⊢
      rw [riL_stop (strp s) g' n r' (by rw [hR.i, hG.1.at]; exact hb)]
      exact ⟨rfl, rfl, hR⟩
    | true =>
      have hl := isN_b s r.i hb
      have k0 : kp (byte s r.i) = true := kp_of (by simp [hb])
      have b0 := ph_byte s r.i hl k0
      cases h2 : (g r).1 with
      | false => rw [riL_bad s g n r hb h2] at hok; cases hok
      | true =>
        have hgr := hgo r hI hm h2
        have hgi := hgr.i
        rw [riL_go s g m n hgo r hI hm hb h2] at hok hG ⊢
        have hG1 : Gd s (g r).2.i := by
          cases hb2 : isN (byte s (g r).2.i) with
          | true => exact Gd.of_kp (isN_b s _ hb2) (kp_of (by simp [hb2])) (isN_nm hb2)
          | false => rw [riL_stop s g _ _ hb2] at hG; exact hG
        obtain ⟨q1, q2⟩ := hgg r r' hR hI hI' hm hm' h2 hG1
        have hgr' := hgo' r' hI' hm' q1
        have hgi' := hgr'.i
        rw [riL_go (strp s) g' m' n hgo' r' hI' hm' (by rw [hR.i, b0]; exact hb) q1]
        exact ih (n + 1) _ _ (by omega) q2 hgr.inv hgr'.inv (by omega) (by omega) hok hG
theorem rp_strip (s : ByteArray) (g g' : Rn → Bool × Rn) (fin : UInt8) (hf : fin = 41 ∨ fin = 93) (least : Nat) (r r' : Rn) (hR : Rl s r r') (hI : RdInv s r) (hI' : RdInv (strp s) r') (ho : byte s r.i = 40 ∨ byte s r.i = 91)
    (hgo : ∀ q, RdInv s q → r.i + 1 ≤ q.i → (g q).1 = true → GoesR s q (g q).2) (hgo' : ∀ q, RdInv (strp s) q → r'.i + 1 ≤ q.i → (g' q).1 = true → GoesR (strp s) q (g' q).2)
    (hgg : ∀ q q', Rl s q q' → RdInv s q → RdInv (strp s) q' → r.i + 1 ≤ q.i → r'.i + 1 ≤ q'.i → (g q).1 = true → Gd s (g q).2.i → (g' q').1 = true ∧ Rl s (g q).2 (g' q').2)
    (hok : (riP s g fin least r).1 = true) : (riP (strp s) g' fin least r').1 = true ∧ Rl s (riP s g fin least r).2 (riP (strp s) g' fin least r').2 := by
  have hl : r.i < s.size := by rcases ho with h | h <;> exact sg_in s _ r.i (by decide) h
  have k0 : kp (byte s r.i) = true := by rcases ho with h | h <;> rw [h] <;> decide
  have p0 := ph_keep s r.i hl k0
  have hle := ph_le s (r.i + 1)
  have hRi := hR.i
  have hR1 : Rl s { r with i := r.i + 1 } { r' with i := r'.i + 1 } := ⟨by simp only; omega, hR.st, hR.tr⟩
  have hI1 : RdInv s { r with i := r.i + 1 } := ⟨by simp only; omega, by have := hI.2.1; simp only; omega, by have := hI.2.2; simp only; omega⟩
  have hI1' : RdInv (strp s) { r' with i := r'.i + 1 } := ⟨by simp only; omega, by have := hI'.2.1; simp only; omega, by have := hI'.2.2; simp only; omega⟩
  have hmain := ri_strip s g g' (r.i + 1) (r'.i + 1) hgo hgo' hgg _ 0 { r with i := r.i + 1 } { r' with i := r'.i + 1 } (Nat.le_refl _) hR1 hI1 hI1' (Nat.le_refl _) (Nat.le_refl _)
  unfold riP at hok ⊢
  by_cases h1 : (riL s g 0 { r with i := r.i + 1 }).1 = false
  · rw [if_pos h1] at hok; cases hok
  · rw [if_neg h1] at hok ⊢
    by_cases h2 : (riL s g 0 { r with i := r.i + 1 }).2.1 < least ∨ byte s (riL s g 0 { r with i := r.i + 1 }).2.2.i ≠ fin
    · rw [if_pos h2] at hok; cases hok
    · rw [if_neg h2]
      have h3 : byte s (riL s g 0 { r with i := r.i + 1 }).2.2.i = fin := by
        rcases Decidable.em (byte s (riL s g 0 { r with i := r.i + 1 }).2.2.i = fin) with e | e
        · exact e
        · exact absurd (Or.inr e) h2
      have hfk : kp fin = true ∧ isMk fin = false ∧ fin ≠ 0 := by rcases hf with e | e <;> subst e <;> decide
      have hl2 := sg_in s fin _ hfk.2.2 h3
      have hG : Gd s (riL s g 0 { r with i := r.i + 1 }).2.2.i := Gd.of_kp hl2 (by rw [h3]; exact hfk.1) (by rw [h3]; exact hfk.2.1)
      obtain ⟨q1, q2, q3⟩ := hmain (by simpa using h1) hG
      have b3 := hG.1.at
      have p3 := ph_keep s _ hl2 hG.1.2
      rw [if_neg (by rw [q1]; decide), if_neg (by rw [q2, q3.i, b3]; exact h2)]
      exact ⟨rfl, by simp only; rw [q3.i, p3], q3.st, q3.tr⟩

theorem map_mod_id (f : StP → StP) (g : StP → StP) (h : ∀ x, f (g x) = f x) (l : List StP) (k : Nat) : (l.modify k g).map f = l.map f := by
  rw [map_modify f g id (fun x => by rw [h]; rfl)]
  exact List.modify_id _ _
theorem mod_enter (l : List StP) (k : Nat) (a : ByteArray) : (l.modify k fun x => { x with enter := a }).map eS = l.map eS := map_mod_id eS (fun x => { x with enter := a }) (fun _ => rfl) l k
theorem mod_leave (l : List StP) (k : Nat) (a : ByteArray) : (l.modify k fun x => { x with leave := a }).map eS = l.map eS := map_mod_id eS (fun x => { x with leave := a }) (fun _ => rfl) l k
theorem ab_id {s : ByteArray} {sg : UInt8} {i : Nat} (h : byte s i ≠ sg) : abI s sg i = i ∧ abK s sg i = true := by
  unfold abI abK; rw [if_neg h, if_neg h]; exact ⟨rfl, rfl⟩
theorem rs_len {s : ByteArray} {r r' : Rn} (h : Rl s r r') : r'.st.length = r.st.length := by simpa using congrArg List.length h.st

theorem rs_strip (s : ByteArray) : ∀ (f f' : Nat) (r r' : Rn) (outer : Int) (depth : Nat), Rl s r r' → RdInv s r → RdInv (strp s) r' → s.size - r.i < f → (strp s).size - r'.i < f' → (rsF s f r outer depth).1 = true → Gd s (rsF s f r outer depth).2.i →
    (rsF (strp s) f' r' outer depth).1 = true ∧ Rl s (rsF s f r outer depth).2 (rsF (strp s) f' r' outer depth).2
  | 0, f', r, r', outer, depth, hR, hI, hI', hf, hf', hok, hG => by omega
  | f + 1, 0, r, r', outer, depth, hR, hI, hI', hf, hf', hok, hG => by omega
  | f + 1, f' + 1, r, r', outer, depth, hR, hI, hI', hf, hf', hok, hG => by
    simp only [rsF] at hok hG ⊢
    by_cases h1 : isN (byte s r.i) = false
    · rw [if_pos h1] at hok; cases hok
    · rw [if_neg h1] at hok hG ⊢
      have h1' : isN (byte s r.i) = true := by simpa using h1
      by_cases h2 : abK s 43 (r.i + 1) = false
      · rw [if_pos h2] at hok; cases hok
      · rw [if_neg h2] at hok hG ⊢
        by_cases h3 : abK s 45 (abI s 43 (r.i + 1)) = false
        · rw [if_pos h3] at hok; cases hok
        · rw [if_neg h3] at hok hG ⊢
          have hl := isN_b s r.i h1'
          have k0 : kp (byte s r.i) = true := kp_of (by simp [h1'])
          have b0 := ph_byte s r.i hl k0
          have p0 := ph_keep s r.i hl k0
          have hRi := hR.i
          have hlen := rs_len hR
          have e1 := abI_bd s 43 (r.i + 1) (by decide) hl
          have e2 := abI_bd s 45 (abI s 43 (r.i + 1)) (by decide) e1.2
          have p1 : ph s (abI s 45 (abI s 43 (r.i + 1))) = ph s (r.i + 1) := by rw [ph_ab s 45 kp45 _ e1.2, ph_ab s 43 kp43 _ hl]
          have hle := ph_le s (r.i + 1)
          -- the place behind the actions
          have hi3 : (rs3 s r.st.length (rs1 s r outer depth)).i = abI s 45 (abI s 43 (r.i + 1)) := rfl
          have hKE : KE s (abI s 45 (abI s 43 (r.i + 1))) := by
            by_cases hb40 : byte s (abI s 45 (abI s 43 (r.i + 1))) = 40
            · exact KE.lt (sg_in s 40 _ (by decide) hb40) (by rw [hb40]; decide)
            · by_cases hb91 : byte s (abI s 45 (abI s 43 (r.i + 1))) = 91
              · exact KE.lt (sg_in s 91 _ (by decide) hb91) (by rw [hb91]; decide)
              · by_cases hb47 : byte s (abI s 45 (abI s 43 (r.i + 1))) = 47
                · exact KE.lt (sg_in s 47 _ (by decide) hb47) (by rw [hb47]; decide)
                · have e4 : rs4 s (fun q => rsF s f q (r.st.length : Nat) (depth + 1)) r.st.length (rs3 s r.st.length (rs1 s r outer depth)) = (true, rs3 s r.st.length (rs1 s r outer depth)) := by
                    unfold rs4; rw [hi3, if_neg hb40, if_neg hb91]
                  rw [e4] at hG
                  unfold rs5 at hG
                  rw [if_neg (by simp), rtL_stop s _ _ (by exact hb47)] at hG
                  exact hG.1
          have bK := hKE.at
          rw [p1, p0] at bK
          have hnd := hKE.nd
          have a43 := ab_id (s := strp s) (sg := 43) (i := r'.i + 1) (by rw [hRi, bK]; exact hnd.2.1)
          have a45 := ab_id (s := strp s) (sg := 45) (i := r'.i + 1) (by rw [hRi, bK]; exact hnd.2.2)
          rw [if_neg (by rw [hRi, b0]; exact h1), if_neg (by rw [a43.2]; decide), if_neg (by rw [a43.1, a45.2]; decide)]
          have hi3' : (rs3 (strp s) r'.st.length (rs1 (strp s) r' outer depth)).i = r'.i + 1 := by
            show abI (strp s) 45 (abI (strp s) 43 (r'.i + 1)) = _
            rw [a43.1, a45.1]
          -- behind the header
          have hR3 : Rl s (rs3 s r.st.length (rs1 s r outer depth)) (rs3 (strp s) r'.st.length (rs1 (strp s) r' outer depth)) := by
            refine ⟨?_, ?_, hR.tr⟩
            · rw [hi3, hi3', p1, p0, hRi]
            · show (((r'.st ++ [_]).modify _ _).modify _ _).map eS = (((r.st ++ [_]).modify _ _).modify _ _).map eS
              rw [mod_leave, mod_enter, mod_leave, mod_enter, List.map_append, List.map_append, hR.st, hRi]
              simp only [List.map_cons, List.map_nil, eS, b0]
          have hI3 : RdInv s (rs3 s r.st.length (rs1 s r outer depth)) := by
            refine ⟨by rw [hi3]; exact e2.2, ?_, ?_⟩
            · rw [hi3]
              show (((r.st ++ [_]).modify _ _).modify _ _).length ≤ _
              simp only [List.length_modify, List.length_append, List.length_cons, List.length_nil]
              have := hI.2.1; omega
            · rw [hi3]; show r.tr.length ≤ _; have := hI.2.2; omega
          have hI3' : RdInv (strp s) (rs3 (strp s) r'.st.length (rs1 (strp s) r' outer depth)) := by
            refine ⟨by rw [hi3']; omega, ?_, ?_⟩
            · rw [hi3']
              show (((r'.st ++ [_]).modify _ _).modify _ _).length ≤ _
              simp only [List.length_modify, List.length_append, List.length_cons, List.length_nil]
              have := hI'.2.1; omega
            · rw [hi3']; show r'.tr.length ≤ _; have := hI'.2.2; omega
          have hL3 : r.i + 1 ≤ (rs3 s r.st.length (rs1 s r outer depth)).i := by rw [hi3]; omega
          have hL3' : r'.i + 1 ≤ (rs3 (strp s) r'.st.length (rs1 (strp s) r' outer depth)).i := by rw [hi3']; omega
          rw [hlen] at hR3 hI3' hL3' ⊢
          generalize rs3 s r.st.length (rs1 s r outer depth) = q3 at *
          generalize rs3 (strp s) r.st.length (rs1 (strp s) r' outer depth) = q3' at *
          have hb3 : byte (strp s) q3'.i = byte s q3.i := by rw [hR3.i, hi3]; exact hKE.at
          have hKK : ∀ kk, Rl s (setKP q3 r.st.length kk) (setKP q3' r.st.length kk) := fun kk => ⟨hR3.i, by
            show (q3'.st.modify _ _).map eS = (q3.st.modify _ _).map eS
            rw [map_modify eS _ (fun x => { x with kind := kk }) (fun x => rfl), map_modify eS _ (fun x => { x with kind := kk }) (fun x => rfl), hR3.st], hR3.tr⟩
          have hIK : ∀ kk, RdInv s (setKP q3 r.st.length kk) := fun kk => ⟨hI3.1, by show (q3.st.modify _ _).length ≤ _; rw [List.length_modify]; exact hI3.2.1, hI3.2.2⟩
          have hIK' : ∀ kk, RdInv (strp s) (setKP q3' r.st.length kk) := fun kk => ⟨hI3'.1, by show (q3'.st.modify _ _).length ≤ _; rw [List.length_modify]; exact hI3'.2.1, hI3'.2.2⟩
          have hgo : ∀ q, RdInv s q → q3.i + 1 ≤ q.i → (rsF s f q (r.st.length : Nat) (depth + 1)).1 = true → GoesR s q (rsF s f q (r.st.length : Nat) (depth + 1)).2 := fun q hq hqi hqk => rsF_goes s f q _ _ hq (by omega) hqk
          have hgo' : ∀ q, RdInv (strp s) q → q3'.i + 1 ≤ q.i → (rsF (strp s) f' q (r.st.length : Nat) (depth + 1)).1 = true → GoesR (strp s) q (rsF (strp s) f' q (r.st.length : Nat) (depth + 1)).2 := fun q hq hqi hqk => rsF_goes (strp s) f' q _ _ hq (by omega) hqk
          have hgg : ∀ q q', Rl s q q' → RdInv s q → RdInv (strp s) q' → q3.i + 1 ≤ q.i → q3'.i + 1 ≤ q'.i → (rsF s f q (r.st.length : Nat) (depth + 1)).1 = true → Gd s (rsF s f q (r.st.length : Nat) (depth + 1)).2.i → (rsF (strp s) f' q' (r.st.length : Nat) (depth + 1)).1 = true ∧ Rl s (rsF s f q (r.st.length : Nat) (depth + 1)).2 (rsF (strp s) f' q' (r.st.length : Nat) (depth + 1)).2 :=
            fun q q' a1 a2 a3 a4 a5 a6 a7 => rs_strip s f f' q q' _ _ a1 a2 a3 (by omega) (by omega) a6 a7
          have h4 : (rs4 s (fun q => rsF s f q (r.st.length : Nat) (depth + 1)) r.st.length q3).1 = true → (rs4 (strp s) (fun q => rsF (strp s) f' q (r.st.length : Nat) (depth + 1)) r.st.length q3').1 = true ∧ Rl s (rs4 s (fun q => rsF s f q (r.st.length : Nat) (depth + 1)) r.st.length q3).2 (rs4 (strp s) (fun q => rsF (strp s) f' q (r.st.length : Nat) (depth + 1)) r.st.length q3').2 := by
            unfold rs4
            rw [hb3]
            by_cases hb40 : byte s q3.i = 40
            · rw [if_pos hb40, if_pos hb40]
              exact rp_strip s _ _ 41 (Or.inl rfl) 1 (setKP q3 r.st.length 1) (setKP q3' r.st.length 1) (hKK 1) (hIK 1) (hIK' 1) (Or.inl hb40) hgo hgo' hgg
            · rw [if_neg hb40, if_neg hb40]
              by_cases hb91 : byte s q3.i = 91
              · rw [if_pos hb91, if_pos hb91]
                exact rp_strip s _ _ 93 (Or.inr rfl) 2 (setKP q3 r.st.length 2) (setKP q3' r.st.length 2) (hKK 2) (hIK 2) (hIK' 2) (Or.inr hb91) hgo hgo' hgg
              · rw [if_neg hb91, if_neg hb91]
                exact fun _ => ⟨rfl, hR3⟩
          generalize rs4 s (fun q => rsF s f q (r.st.length : Nat) (depth + 1)) r.st.length q3 = q4 at *
          generalize rs4 (strp s) (fun q => rsF (strp s) f' q (r.st.length : Nat) (depth + 1)) r.st.length q3' = q4' at *
          unfold rs5 at hok hG ⊢
          by_cases h5 : q4.1 = false
          · rw [if_pos h5, h5] at hok; cases hok
          · rw [if_neg h5] at hok hG ⊢
            obtain ⟨z1, z2⟩ := h4 (by simpa using h5)
            rw [if_neg (by rw [z1]; decide)]
            refine rl_strip s r.st.length _ _ _ (Nat.le_refl _) ⟨z2.i, ?_, z2.tr⟩ hok hG
            show (q4'.2.st.modify _ _).map eS = (q4.2.st.modify _ _).map eS
            rw [map_modify eS _ (fun x => { x with end_ := q4.2.st.length }) (fun x => by rw [rs_len z2]; rfl), map_modify eS _ (fun x => { x with end_ := q4.2.st.length }) (fun x => rfl), z2.st]
theorem rd_strip {s : ByteArray} (h : rcK s = true) : rcK (strp s) = true ∧ (rcR (strp s)).2.st.map eS = (rcR s).2.st.map eS ∧ (rcR (strp s)).2.tr.map eT = (rcR s).2.tr.map eT := by
  rw [rcK, Bool.and_eq_true, beq_iff_eq] at h
  have h0 := rs_strip s (s.size + 1) ((strp s).size + 1) R0 R0 (-1) 1 ⟨rfl, rfl, rfl⟩ ⟨Nat.zero_le _, Nat.le_refl _, Nat.le_refl _⟩ ⟨Nat.zero_le _, Nat.le_refl _, Nat.le_refl _⟩ (by show s.size - 0 < _; omega) (by show (strp s).size - 0 < _; omega) h.1
    (by show Gd s (rcR s).2.i; rw [h.2]; exact ⟨KE.end' s, by rw [byte_out _ _ (by omega)]; decide⟩)
  have h1 : (rcR (strp s)).1 = true ∧ Rl s (rcR s).2 (rcR (strp s)).2 := h0
  refine ⟨?_, h1.2.st, h1.2.tr⟩
  rw [rcK, Bool.and_eq_true, beq_iff_eq]
  exact ⟨h1.1, by rw [h1.2.i, h.2, ph_end]⟩
end Go.Proofs.Ytmolmbeeoecnfaa
