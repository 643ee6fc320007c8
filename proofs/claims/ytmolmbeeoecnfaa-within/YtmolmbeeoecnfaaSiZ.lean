/- Own work: a chart's text without its actions is read alike. -/
import Derived.Test.YtmolmbeeoecnfaaIdA
import Derived.Test.YtmolmbeeoecnfaaSiW
namespace Go.Proofs.Ytmolmbeeoecnfaa
open Go.RowKit Go.BigFrame
set_option linter.unusedVariables false
set_option linter.unusedSimpArgs false

/-- How many of the first i bytes stay. -/
def ph (s : ByteArray) (i : Nat) : Nat := ((s.data.toList.take i).filter kp).length
theorem ph_succ (s : ByteArray) (i : Nat) (h : i < s.size) : (s.data.toList.take (i + 1)).filter kp = (s.data.toList.take i).filter kp ++ (if kp (byte s i) = true then [byte s i] else []) := by
  have h1 : i < s.data.toList.length := h
  rw [List.take_succ_eq_append_getElem h1, List.filter_append]
  have h2 : s.data.toList[i] = byte s i := by rw [byte_in s i h]; rfl
  rw [h2]
  congr 1
  by_cases hk : kp (byte s i) = true
  · simp [hk]
  · simp [hk]
theorem ph_keep (s : ByteArray) (i : Nat) (h : i < s.size) (hk : kp (byte s i) = true) : ph s (i + 1) = ph s i + 1 := by
  unfold ph; rw [ph_succ s i h, if_pos hk]; simp
theorem ph_drop (s : ByteArray) (i : Nat) (h : i < s.size) (hk : kp (byte s i) = false) : ph s (i + 1) = ph s i := by
  unfold ph; rw [ph_succ s i h, if_neg (by simp [hk])]; simp
theorem ph_end (s : ByteArray) : ph s s.size = (strp s).size := by
  unfold ph strp
  rw [List.take_of_length_le (by exact Nat.le_refl _)]
  rfl
theorem ph_le (s : ByteArray) (i : Nat) : ph s i ≤ (strp s).size := by
  have h : (s.data.toList.take i).filter kp <+: s.data.toList.filter kp := (List.take_prefix _ _).filter kp
  exact h.length_le
theorem strp_le (s : ByteArray) : (strp s).size ≤ s.size := List.length_filter_le _ _
theorem ph_byte (s : ByteArray) (i : Nat) (h : i < s.size) (hk : kp (byte s i) = true) : byte (strp s) (ph s i) = byte s i := by
  have h1 := ph_keep s i h hk
  have h2 := ph_le s (i + 1)
  rw [byte_in _ _ (by omega)]
  have hpre : (s.data.toList.take (i + 1)).filter kp <+: s.data.toList.filter kp := (List.take_prefix _ _).filter kp
  have h3 : ((s.data.toList.take (i + 1)).filter kp)[ph s i]? = some (byte s i) := by
    unfold ph
    rw [ph_succ s i h, if_pos hk, List.getElem?_append_right (Nat.le_refl _)]
    simp
  have h4 : (s.data.toList.filter kp)[ph s i]? = some (byte s i) := by
    obtain ⟨t, ht⟩ := hpre
    rw [← ht, List.getElem?_append_left (List.getElem?_eq_some_iff.1 h3).1, h3]
  have h5 : (strp s).data.toList[ph s i]? = some (byte s i) := h4
  obtain ⟨h6, h7⟩ := List.getElem?_eq_some_iff.1 h5
  exact h7
/-- Here stands a byte that stays, or the text ends. -/
def KE (s : ByteArray) (i : Nat) : Prop := i ≤ s.size ∧ kp (byte s i) = true
theorem KE.lt {s : ByteArray} {i : Nat} (h0 : i < s.size) (h : kp (byte s i) = true) : KE s i := ⟨by omega, h⟩
theorem KE.at {s : ByteArray} {i : Nat} (h : KE s i) : byte (strp s) (ph s i) = byte s i := by
  by_cases h1 : i < s.size
  · exact ph_byte s i h1 h.2
  · have e : i = s.size := by have := h.1; omega
    subst e
    rw [ph_end, byte_out _ _ (by omega), byte_out _ _ (by omega)]
theorem KE.end' (s : ByteArray) : KE s s.size := ⟨Nat.le_refl _, by rw [byte_out _ _ (by omega)]; decide⟩
theorem KE.nd {s : ByteArray} {i : Nat} (h : KE s i) : isD (byte s i) = false ∧ byte s i ≠ 43 ∧ byte s i ≠ 45 := by
  have := h.2
  unfold kp at this
  simp only [Bool.and_eq_true, Bool.not_eq_true', beq_eq_false_iff_ne] at this
  exact ⟨this.1.1, this.1.2, this.2⟩
theorem all_u8 {P : UInt8 → Prop} (h : ∀ n : Fin 256, P (UInt8.ofNat n.val)) (c : UInt8) : P c := by
  have h1 := h ⟨c.toNat, c.toNat_lt⟩
  rwa [UInt8.ofNat_toNat] at h1
theorem kp_of {c : UInt8} (h : isN c = true ∨ isE c = true ∨ c = 47 ∨ c = 62 ∨ c = 40 ∨ c = 91 ∨ c = 41 ∨ c = 93 ∨ isMk c = true ∨ isC c = true) : kp c = true := by
  have key : ∀ c : UInt8, (isN c = true ∨ isE c = true ∨ c = 47 ∨ c = 62 ∨ c = 40 ∨ c = 91 ∨ c = 41 ∨ c = 93 ∨ isMk c = true ∨ isC c = true) → kp c = true := all_u8 (by decide +kernel)
  exact key c h
theorem isN_nm {c : UInt8} (h : isN c = true) : isMk c = false := by
  have key : ∀ c : UInt8, isN c = true → isMk c = false := all_u8 (by decide +kernel)
  exact key c h
theorem ph_run (s : ByteArray) (i : Nat) : ∀ j, i ≤ j → j ≤ s.size → (∀ k, i ≤ k → k < j → kp (byte s k) = false) → ph s j = ph s i
  | 0, h1, h2, h3 => by have : i = 0 := by omega
                        subst this; rfl
  | j + 1, h1, h2, h3 => by
    by_cases e : i = j + 1
    · rw [e]
    · rw [ph_drop s j (by omega) (h3 j (by omega) (by omega))]
      exact ph_run s i j (by omega) (by omega) (fun k a b => h3 k a (by omega))
theorem ph_dend (s : ByteArray) (i : Nat) (h : i ≤ s.size) : ph s (dend s i) = ph s i :=
  ph_run s i _ (dend_ge s i) (dend_le s i h) (fun k a b => by
    have := dend_dig s i k a b
    unfold kp; rw [this]; rfl)
theorem kp43 : kp 43 = false := by decide
theorem kp45 : kp 45 = false := by decide
theorem ph_ab (s : ByteArray) (sg : UInt8) (hs : kp sg = false) (i : Nat) (h : i ≤ s.size) : ph s (abI s sg i) = ph s i := by
  unfold abI; split
  · rename_i h1
    have h2 : i < s.size := by
      by_cases h3 : i < s.size
      · exact h3
      · rw [byte_out s i h3] at h1; subst h1; exact absurd hs (by decide)
    rw [ph_dend s (i + 1) h2, ph_drop s i h2 (by rw [h1]; exact hs)]
  · rfl

/-! What stays of a plan. -/
def eC (c : CdP) : CdP := { c with place := 0 }
def eT (t : TrQ) : TrQ := { t with conds := t.conds.map eC, tp := 0, mp := 0, acts := ⟨#[]⟩ }
def eS (x : StP) : StP := { x with place := 0, enter := ⟨#[]⟩, leave := ⟨#[]⟩ }

theorem rc_strip (s : ByteArray) : ∀ (n i : Nat) (a a' : List CdP), s.size - i ≤ n → i ≤ s.size → a'.map eC = a.map eC → (rcP s i a).1 = true → byte s (rcP s i a).2.1 = 62 →
    (rcP (strp s) (ph s i) a').1 = true ∧ (rcP (strp s) (ph s i) a').2.1 = ph s (rcP s i a).2.1 ∧ (rcP (strp s) (ph s i) a').2.2.map eC = (rcP s i a).2.2.map eC := by
  intro n
  induction n with
  | zero =>
    intro i a a' h1 h2 ha h3 h4
    by_cases hc : isC (byte s i) = true
    · have := isC_b s i hc; omega
    · have hc' : isC (byte s i) = false := by simpa using hc
      rw [rcP_stop s i a hc'] at h4 ⊢
      simp only at h4
      rw [rcP_stop (strp s) (ph s i) a' (by rw [(KE.lt (sg_in s 62 i (by decide) h4) (kp_of (by simp [h4]))).at]; exact hc')]
      exact ⟨rfl, rfl, ha⟩
  | succ n ih =>
    intro i a a' h1 h2 ha h3 h4
    by_cases hc : isC (byte s i) = true
    · have hi := isC_b s i hc
      by_cases hn : isN (byte s (i + 1)) = true
      · have hi2 := isN_b s _ hn
        have k1 : kp (byte s i) = true := kp_of (by simp [hc])
        have k2 : kp (byte s (i + 1)) = true := kp_of (by simp [hn])
        have p1 := ph_keep s i hi k1
        have p2 := ph_keep s (i + 1) hi2 k2
        have b1 := ph_byte s i hi k1
        have b2 := ph_byte s (i + 1) hi2 k2
        rw [p1] at p2 b2
        rw [rcP_go s i a hc hn] at h3 h4 ⊢
        rw [rcP_go (strp s) (ph s i) a' (by rw [b1]; exact hc) (by rw [b2]; exact hn), ← p2, b1, b2]
        refine ih (i + 2) _ _ (by omega) (by omega) ?_ h3 h4
        rw [List.map_append, List.map_append, ha]
        rfl
      · have hn' : isN (byte s (i + 1)) = false := by simpa using hn
        rw [rcP_bad s i a hc hn'] at h3
        cases h3
    · have hc' : isC (byte s i) = false := by simpa using hc
      rw [rcP_stop s i a hc'] at h4 ⊢
      simp only at h4
      rw [rcP_stop (strp s) (ph s i) a' (by rw [(KE.lt (sg_in s 62 i (by decide) h4) (kp_of (by simp [h4]))).at]; exact hc')]
      exact ⟨rfl, rfl, ha⟩

/-- Here something may go on behind a transition or a state. -/
def Gd (s : ByteArray) (i : Nat) : Prop := KE s i ∧ isMk (byte s i) = false
theorem rtP_yes {s : ByteArray} {own i : Nat} (h : (rtP s own i).1 = true) : isE (byte s (i + 1)) = true ∧ (rcP s (i + 2) []).1 = true ∧ byte s (rcP s (i + 2) []).2.1 = 62 ∧ isN (byte s ((rcP s (i + 2) []).2.1 + 1)) = true := by
  unfold rtP at h
  simp only at h
  by_cases h1 : isE (byte s (i + 1)) = false
  · rw [if_pos h1] at h; cases h
  · rw [if_neg h1] at h
    by_cases h2 : (rcP s (i + 2) []).1 = false
    · rw [if_pos h2] at h; cases h
    · rw [if_neg h2] at h
      by_cases h3 : byte s (rcP s (i + 2) []).2.1 ≠ 62
      · rw [if_pos h3] at h; cases h
      · rw [if_neg h3] at h
        by_cases h4 : isN (byte s ((rcP s (i + 2) []).2.1 + 1)) = false
        · rw [if_pos h4] at h; cases h
        · exact ⟨by simpa using h1, by simpa using h2, by simpa using h3, by simpa using h4⟩
theorem rtP_is {s : ByteArray} {own i : Nat} (h1 : isE (byte s (i + 1)) = true) (h2 : (rcP s (i + 2) []).1 = true) (h3 : byte s (rcP s (i + 2) []).2.1 = 62) (h4 : isN (byte s ((rcP s (i + 2) []).2.1 + 1)) = true) :
    rtP s own i = (true, dend s (rmI s ((rcP s (i + 2) []).2.1 + 2)),
    ⟨own, byte s (i + 1), (rcP s (i + 2) []).2.2, byte s ((rcP s (i + 2) []).2.1 + 1), (rcP s (i + 2) []).2.1 + 1, -1, rmC s ((rcP s (i + 2) []).2.1 + 2), (rcP s (i + 2) []).2.1 + 2, cut s (rmI s ((rcP s (i + 2) []).2.1 + 2)) (dend s (rmI s ((rcP s (i + 2) []).2.1 + 2)))⟩) := by
  unfold rtP
  simp only
  rw [if_neg (by simp [h1]), if_neg (by simp [h2]), if_neg (by simp [h3]), if_neg (by simp [h4])]
theorem rt_strip (s : ByteArray) (own i : Nat) (hb : byte s i = 47) (h : (rtP s own i).1 = true) (hg : Gd s (rtP s own i).2.1) :
    (rtP (strp s) own (ph s i)).1 = true ∧ (rtP (strp s) own (ph s i)).2.1 = ph s (rtP s own i).2.1 ∧ eT (rtP (strp s) own (ph s i)).2.2 = eT (rtP s own i).2.2 := by
  obtain ⟨h1, h2, h3, h4⟩ := rtP_yes h
  have l0 := sg_in s 47 i (by decide) hb
  have l1 := isE_b s _ h1
  have l4 := isN_b s _ h4
  have k0 : kp (byte s i) = true := kp_of (by simp [hb])
  have k1 : kp (byte s (i + 1)) = true := kp_of (by simp [h1])
  have p0 := ph_keep s i l0 k0
  have p1 := ph_keep s (i + 1) l1 k1
  have b1 := ph_byte s (i + 1) l1 k1
  rw [p0] at p1 b1
  have hrc := rc_strip s _ (i + 2) [] [] (Nat.le_refl _) (by omega) rfl h2 h3
  rw [show i + 1 + 1 = i + 2 from rfl] at p1
  rw [p1] at hrc
  rw [rtP_is h1 h2 h3 h4] at hg ⊢
  simp only at hg ⊢
  generalize hA : (rcP s (i + 2) []).2.1 = A at *
  generalize hC : (rcP s (i + 2) []).2.2 = C at *
  have l3 := sg_in s 62 A (by decide) h3
  have k3 : kp (byte s A) = true := kp_of (by simp [h3])
  have k4 : kp (byte s (A + 1)) = true := kp_of (by simp [h4])
  have p3 := ph_keep s A l3 k3
  have p4 := ph_keep s (A + 1) l4 k4
  have b3 := ph_byte s A l3 k3
  have b4 := ph_byte s (A + 1) l4 k4
  rw [p3] at p4 b4
  rw [show A + 1 + 1 = A + 2 from rfl] at p4
  obtain ⟨q1, q2, q3⟩ := hrc
  rw [rtP_is (own := own) (by rw [b1]; exact h1) q1 (by rw [q2, b3]; exact h3) (by rw [q2, b4]; exact h4)]
  simp only
  rw [q2, b1, b4]
  have hm : rmI (strp s) (ph s A + 2) = ph s (rmI s (A + 2)) ∧ rmC (strp s) (ph s A + 2) = rmC s (A + 2) := by
    rw [← p4]
    by_cases hk : isMk (byte s (A + 2)) = true
    · have l5 := isMk_b s _ hk
      have k5 : kp (byte s (A + 2)) = true := kp_of (by simp [hk])
      have p5 := ph_keep s (A + 2) l5 k5
      have b5 := ph_byte s (A + 2) l5 k5
      unfold rmI rmC
      rw [b5, if_pos hk, if_pos hk, if_pos hk]
      exact ⟨by rw [p5], rfl⟩
    · have e : rmI s (A + 2) = A + 2 := by unfold rmI; rw [if_neg hk]
      rw [e] at hg
      have p6 := ph_dend s (A + 2) (by omega)
      have b6 := hg.1.at
      rw [p6] at b6
      have hk2 : ¬ isMk (byte (strp s) (ph s (A + 2))) = true := by rw [b6, hg.2]; simp
      unfold rmI rmC
      rw [if_neg hk, if_neg hk, if_neg hk2, if_neg hk2]
      exact ⟨rfl, rfl⟩
  rw [hm.1, hm.2]
  have hr := (rmI_bd s (A + 2) (by omega)).2
  have p7 := ph_dend s (rmI s (A + 2)) hr
  have b7 := hg.1.at
  rw [p7] at b7
  have hd : dend (strp s) (ph s (rmI s (A + 2))) = ph s (rmI s (A + 2)) := dend_stop _ _ (by rw [b7]; exact hg.1.nd.1)
  rw [hd, p7]
  refine ⟨trivial, rfl, ?_⟩
  unfold eT
  simp only
  rw [q3]

/-- Two readings that go along with one another. -/
structure Rl (s : ByteArray) (r r' : Rn) : Prop where
  i : r'.i = ph s r.i
  st : r'.st.map eS = r.st.map eS
  tr : r'.tr.map eT = r.tr.map eT

theorem rl_strip (s : ByteArray) (own : Nat) : ∀ (n : Nat) (r r' : Rn), s.size - r.i ≤ n → Rl s r r' → (rtL s own r).1 = true → Gd s (rtL s own r).2.i → (rtL (strp s) own r').1 = true ∧ Rl s (rtL s own r).2 (rtL (strp s) own r').2 := by
  intro n
  induction n with
  | zero =>
    intro r r' hn hR hk hg
    have hb : byte s r.i ≠ 47 := by intro e; have := sg_in s 47 r.i (by decide) e; omega
    rw [rtL_stop s own r hb] at hg ⊢
    rw [rtL_stop (strp s) own r' (by rw [hR.i, hg.1.at]; exact hb)]
    exact ⟨rfl, hR⟩
  | succ n ih =>
    intro r r' hn hR hk hg
    by_cases hb : byte s r.i = 47
    · have hl := sg_in s 47 r.i (by decide) hb
      by_cases h2 : (rtP s own r.i).1 = true
      · have hbd := rtP_bd s own r.i hl h2
        have hgo := rtL_go s own r hb h2
        rw [hgo] at hk hg ⊢
        have hgd : Gd s (rtP s own r.i).2.1 := by
          by_cases hb2 : byte s (rtP s own r.i).2.1 = 47
          · exact ⟨KE.lt (sg_in s 47 _ (by decide) hb2) (kp_of (by simp [hb2])), by rw [hb2]; decide⟩
          · rw [rtL_stop s own _ hb2] at hg; exact hg
        obtain ⟨q1, q2, q3⟩ := rt_strip s own r.i hb h2 hgd
        have k0 : kp (byte s r.i) = true := kp_of (by simp [hb])
        have b0 := ph_byte s r.i hl k0
        rw [rtL_go (strp s) own r' (by rw [hR.i, b0]; exact hb) (by rw [hR.i]; exact q1)]
        refine ih _ _ (by simp only; omega) ⟨by simp only; rw [hR.i]; exact q2, hR.st, ?_⟩ hk hg
        simp only [List.map_append, List.map_cons, List.map_nil]
        rw [hR.tr, hR.i, q3]
      · have h2' : (rtP s own r.i).1 = false := by simpa using h2
        rw [rtL_bad s own r hb h2'] at hk
        cases hk
    · rw [rtL_stop s own r hb] at hg ⊢
      rw [rtL_stop (strp s) own r' (by rw [hR.i, hg.1.at]; exact hb)]
      exact ⟨rfl, hR⟩
end Go.Proofs.Ytmolmbeeoecnfaa

/- Own work: a chart's text without its actions is read alike: states, the whole text. -/
namespace Go.Proofs.Ytmolmbeeoecnfaa
open Go.RowKit Go.BigFrame
set_option linter.unusedVariables false
set_option linter.unusedSimpArgs false

theorem Gd.of_kp {s : ByteArray} {i : Nat} (h0 : i < s.size) (h : kp (byte s i) = true) (hm : isMk (byte s i) = false) : Gd s i := ⟨KE.lt h0 h, hm⟩
theorem ri_strip (s : ByteArray) (g g' : Rn → Bool × Rn) (m m' : Nat) (hgo : ∀ q, RdInv s q → m ≤ q.i → (g q).1 = true → GoesR s q (g q).2)
    (hgo' : ∀ q, RdInv (strp s) q → m' ≤ q.i → (g' q).1 = true → GoesR (strp s) q (g' q).2)
    (hgg : ∀ q q', Rl s q q' → RdInv s q → RdInv (strp s) q' → m ≤ q.i → m' ≤ q'.i → (g q).1 = true → Gd s (g q).2.i → (g' q').1 = true ∧ Rl s (g q).2 (g' q').2) :
    ∀ (k n : Nat) (r r' : Rn), s.size - r.i ≤ k → Rl s r r' → RdInv s r → RdInv (strp s) r' → m ≤ r.i → m' ≤ r'.i → (riL s g n r).1 = true → Gd s (riL s g n r).2.2.i →
      (riL (strp s) g' n r').1 = true ∧ (riL (strp s) g' n r').2.1 = (riL s g n r).2.1 ∧ Rl s (riL s g n r).2.2 (riL (strp s) g' n r').2.2 := by
  intro k
  induction k with
  | zero =>
    intro n r r' hk hR hI hI' hm hm' hok hG
    have hb : isN (byte s r.i) = false := by
      cases e : isN (byte s r.i) with
      | false => rfl
      | true => have := isN_b s r.i e; omega
    rw [riL_stop s g n r hb] at hG ⊢
    rw [riL_stop (strp s) g' n r' (by rw [hR.i, hG.1.at]; exact hb)]
    exact ⟨rfl, rfl, hR⟩
  | succ k ih =>
    intro n r r' hk hR hI hI' hm hm' hok hG
    cases hb : isN (byte s r.i) with
    | false =>
      rw [riL_stop s g n r hb] at hG ⊢
      rw [riL_stop (strp s) g' n r' (by rw [hR.i, hG.1.at]; exact hb)]
      exact ⟨rfl, rfl, hR⟩
    | true =>
      have hl := isN_b s r.i hb
      have k0 : kp (byte s r.i) = true := kp_of (by simp [hb])
      have b0 := ph_byte s r.i hl k0
      cases h2 : (g r).1 with
      | false => rw [riL_bad s g n r hb h2] at hok; cases hok
      | true =>
        have hgr := hgo r hI hm h2
        have hgi := hgr.i
        rw [riL_go s g m n hgo r hI hm hb h2] at hok hG ⊢
        have hG1 : Gd s (g r).2.i := by
          cases hb2 : isN (byte s (g r).2.i) with
          | true => exact Gd.of_kp (isN_b s _ hb2) (kp_of (by simp [hb2])) (isN_nm hb2)
          | false => rw [riL_stop s g _ _ hb2] at hG; exact hG
        obtain ⟨q1, q2⟩ := hgg r r' hR hI hI' hm hm' h2 hG1
        have hgr' := hgo' r' hI' hm' q1
        have hgi' := hgr'.i
        rw [riL_go (strp s) g' m' n hgo' r' hI' hm' (by rw [hR.i, b0]; exact hb) q1]
        exact ih (n + 1) _ _ (by omega) q2 hgr.inv hgr'.inv (by omega) (by omega) hok hG
theorem rp_strip (s : ByteArray) (g g' : Rn → Bool × Rn) (fin : UInt8) (hf : fin = 41 ∨ fin = 93) (least : Nat) (r r' : Rn) (hR : Rl s r r') (hI : RdInv s r) (hI' : RdInv (strp s) r') (ho : byte s r.i = 40 ∨ byte s r.i = 91)
    (hgo : ∀ q, RdInv s q → r.i + 1 ≤ q.i → (g q).1 = true → GoesR s q (g q).2) (hgo' : ∀ q, RdInv (strp s) q → r'.i + 1 ≤ q.i → (g' q).1 = true → GoesR (strp s) q (g' q).2)
    (hgg : ∀ q q', Rl s q q' → RdInv s q → RdInv (strp s) q' → r.i + 1 ≤ q.i → r'.i + 1 ≤ q'.i → (g q).1 = true → Gd s (g q).2.i → (g' q').1 = true ∧ Rl s (g q).2 (g' q').2)
    (hok : (riP s g fin least r).1 = true) : (riP (strp s) g' fin least r').1 = true ∧ Rl s (riP s g fin least r).2 (riP (strp s) g' fin least r').2 := by
  have hl : r.i < s.size := by rcases ho with h | h <;> exact sg_in s _ r.i (by decide) h
  have k0 : kp (byte s r.i) = true := by rcases ho with h | h <;> rw [h] <;> decide
  have p0 := ph_keep s r.i hl k0
  have hle := ph_le s (r.i + 1)
  have hRi := hR.i
  have hR1 : Rl s { r with i := r.i + 1 } { r' with i := r'.i + 1 } := ⟨by simp only; omega, hR.st, hR.tr⟩
  have hI1 : RdInv s { r with i := r.i + 1 } := ⟨by simp only; omega, by have := hI.2.1; simp only; omega, by have := hI.2.2; simp only; omega⟩
  have hI1' : RdInv (strp s) { r' with i := r'.i + 1 } := ⟨by simp only; omega, by have := hI'.2.1; simp only; omega, by have := hI'.2.2; simp only; omega⟩
  have hmain := ri_strip s g g' (r.i + 1) (r'.i + 1) hgo hgo' hgg _ 0 { r with i := r.i + 1 } { r' with i := r'.i + 1 } (Nat.le_refl _) hR1 hI1 hI1' (Nat.le_refl _) (Nat.le_refl _)
  unfold riP at hok ⊢
  by_cases h1 : (riL s g 0 { r with i := r.i + 1 }).1 = false
  · rw [if_pos h1] at hok; cases hok
  · rw [if_neg h1] at hok ⊢
    by_cases h2 : (riL s g 0 { r with i := r.i + 1 }).2.1 < least ∨ byte s (riL s g 0 { r with i := r.i + 1 }).2.2.i ≠ fin
    · rw [if_pos h2] at hok; cases hok
    · rw [if_neg h2]
      have h3 : byte s (riL s g 0 { r with i := r.i + 1 }).2.2.i = fin := by
        rcases Decidable.em (byte s (riL s g 0 { r with i := r.i + 1 }).2.2.i = fin) with e | e
        · exact e
        · exact absurd (Or.inr e) h2
      have hfk : kp fin = true ∧ isMk fin = false ∧ fin ≠ 0 := by rcases hf with e | e <;> subst e <;> decide
      have hl2 := sg_in s fin _ hfk.2.2 h3
      have hG : Gd s (riL s g 0 { r with i := r.i + 1 }).2.2.i := Gd.of_kp hl2 (by rw [h3]; exact hfk.1) (by rw [h3]; exact hfk.2.1)
      obtain ⟨q1, q2, q3⟩ := hmain (by simpa using h1) hG
      have b3 := hG.1.at
      have p3 := ph_keep s _ hl2 hG.1.2
      rw [if_neg (by rw [q1]; decide), if_neg (by rw [q2, q3.i, b3]; exact h2)]
      exact ⟨rfl, by simp only; rw [q3.i, p3], q3.st, q3.tr⟩

theorem map_mod_id (f : StP → StP) (g : StP → StP) (h : ∀ x, f (g x) = f x) (l : List StP) (k : Nat) : (l.modify k g).map f = l.map f := by
  rw [map_modify f g id (fun x => by rw [h]; rfl)]
  exact List.modify_id _ _
theorem mod_enter (l : List StP) (k : Nat) (a : ByteArray) : (l.modify k fun x => { x with enter := a }).map eS = l.map eS := map_mod_id eS (fun x => { x with enter := a }) (fun _ => rfl) l k
theorem mod_leave (l : List StP) (k : Nat) (a : ByteArray) : (l.modify k fun x => { x with leave := a }).map eS = l.map eS := map_mod_id eS (fun x => { x with leave := a }) (fun _ => rfl) l k
theorem ab_id {s : ByteArray} {sg : UInt8} {i : Nat} (h : byte s i ≠ sg) : abI s sg i = i ∧ abK s sg i = true := by
  unfold abI abK; rw [if_neg h, if_neg h]; exact ⟨rfl, rfl⟩
theorem rs_len {s : ByteArray} {r r' : Rn} (h : Rl s r r') : r'.st.length = r.st.length := by simpa using congrArg List.length h.st

theorem rs_strip (s : ByteArray) : ∀ (f f' : Nat) (r r' : Rn) (outer : Int) (depth : Nat), Rl s r r' → RdInv s r → RdInv (strp s) r' → s.size - r.i < f → (strp s).size - r'.i < f' → (rsF s f r outer depth).1 = true → Gd s (rsF s f r outer depth).2.i →
    (rsF (strp s) f' r' outer depth).1 = true ∧ Rl s (rsF s f r outer depth).2 (rsF (strp s) f' r' outer depth).2
  | 0, f', r, r', outer, depth, hR, hI, hI', hf, hf', hok, hG => by omega
  | f + 1, 0, r, r', outer, depth, hR, hI, hI', hf, hf', hok, hG => by omega
  | f + 1, f' + 1, r, r', outer, depth, hR, hI, hI', hf, hf', hok, hG => by
    simp only [rsF] at hok hG ⊢
    by_cases h1 : isN (byte s r.i) = false
    · rw [if_pos h1] at hok; cases hok
    · rw [if_neg h1] at hok hG ⊢
      have h1' : isN (byte s r.i) = true := by simpa using h1
      by_cases h2 : abK s 43 (r.i + 1) = false
      · rw [if_pos h2] at hok; cases hok
      · rw [if_neg h2] at hok hG ⊢
        by_cases h3 : abK s 45 (abI s 43 (r.i + 1)) = false
        · rw [if_pos h3] at hok; cases hok
        · rw [if_neg h3] at hok hG ⊢
          have hl := isN_b s r.i h1'
          have k0 : kp (byte s r.i) = true := kp_of (by simp [h1'])
          have b0 := ph_byte s r.i hl k0
          have p0 := ph_keep s r.i hl k0
          have hRi := hR.i
          have hlen := rs_len hR
          have e1 := abI_bd s 43 (r.i + 1) (by decide) hl
          have e2 := abI_bd s 45 (abI s 43 (r.i + 1)) (by decide) e1.2
          have p1 : ph s (abI s 45 (abI s 43 (r.i + 1))) = ph s (r.i + 1) := by rw [ph_ab s 45 kp45 _ e1.2, ph_ab s 43 kp43 _ hl]
          have hle := ph_le s (r.i + 1)
          -- the place behind the actions
          have hi3 : (rs3 s r.st.length (rs1 s r outer depth)).i = abI s 45 (abI s 43 (r.i + 1)) := rfl
          have hKE : KE s (abI s 45 (abI s 43 (r.i + 1))) := by
            by_cases hb40 : byte s (abI s 45 (abI s 43 (r.i + 1))) = 40
            · exact KE.lt (sg_in s 40 _ (by decide) hb40) (by rw [hb40]; decide)
            · by_cases hb91 : byte s (abI s 45 (abI s 43 (r.i + 1))) = 91
              · exact KE.lt (sg_in s 91 _ (by decide) hb91) (by rw [hb91]; decide)
              · by_cases hb47 : byte s (abI s 45 (abI s 43 (r.i + 1))) = 47
                · exact KE.lt (sg_in s 47 _ (by decide) hb47) (by rw [hb47]; decide)
                · have e4 : rs4 s (fun q => rsF s f q (r.st.length : Nat) (depth + 1)) r.st.length (rs3 s r.st.length (rs1 s r outer depth)) = (true, rs3 s r.st.length (rs1 s r outer depth)) := by
                    unfold rs4; rw [hi3, if_neg hb40, if_neg hb91]
                  rw [e4] at hG
                  unfold rs5 at hG
                  rw [if_neg (by simp), rtL_stop s _ _ (by exact hb47)] at hG
                  exact hG.1
          have bK := hKE.at
          rw [p1, p0] at bK
          have hnd := hKE.nd
          have a43 := ab_id (s := strp s) (sg := 43) (i := r'.i + 1) (by rw [hRi, bK]; exact hnd.2.1)
          have a45 := ab_id (s := strp s) (sg := 45) (i := r'.i + 1) (by rw [hRi, bK]; exact hnd.2.2)
          rw [if_neg (by rw [hRi, b0]; exact h1), if_neg (by rw [a43.2]; decide), if_neg (by rw [a43.1, a45.2]; decide)]
          have hi3' : (rs3 (strp s) r'.st.length (rs1 (strp s) r' outer depth)).i = r'.i + 1 := by
            show abI (strp s) 45 (abI (strp s) 43 (r'.i + 1)) = _
            rw [a43.1, a45.1]
          -- behind the header
          have hR3 : Rl s (rs3 s r.st.length (rs1 s r outer depth)) (rs3 (strp s) r'.st.length (rs1 (strp s) r' outer depth)) := by
            refine ⟨?_, ?_, hR.tr⟩
            · rw [hi3, hi3', p1, p0, hRi]
            · show (((r'.st ++ [_]).modify _ _).modify _ _).map eS = (((r.st ++ [_]).modify _ _).modify _ _).map eS
              rw [mod_leave, mod_enter, mod_leave, mod_enter, List.map_append, List.map_append, hR.st, hRi]
              simp only [List.map_cons, List.map_nil, eS, b0]
          have hI3 : RdInv s (rs3 s r.st.length (rs1 s r outer depth)) := by
            refine ⟨by rw [hi3]; exact e2.2, ?_, ?_⟩
            · rw [hi3]
              show (((r.st ++ [_]).modify _ _).modify _ _).length ≤ _
              simp only [List.length_modify, List.length_append, List.length_cons, List.length_nil]
              have := hI.2.1; omega
            · rw [hi3]; show r.tr.length ≤ _; have := hI.2.2; omega
          have hI3' : RdInv (strp s) (rs3 (strp s) r'.st.length (rs1 (strp s) r' outer depth)) := by
            refine ⟨by rw [hi3']; omega, ?_, ?_⟩
            · rw [hi3']
              show (((r'.st ++ [_]).modify _ _).modify _ _).length ≤ _
              simp only [List.length_modify, List.length_append, List.length_cons, List.length_nil]
              have := hI'.2.1; omega
            · rw [hi3']; show r'.tr.length ≤ _; have := hI'.2.2; omega
          have hL3 : r.i + 1 ≤ (rs3 s r.st.length (rs1 s r outer depth)).i := by rw [hi3]; omega
          have hL3' : r'.i + 1 ≤ (rs3 (strp s) r'.st.length (rs1 (strp s) r' outer depth)).i := by rw [hi3']; omega
          rw [hlen] at hR3 hI3' hL3' ⊢
          generalize rs3 s r.st.length (rs1 s r outer depth) = q3 at *
          generalize rs3 (strp s) r.st.length (rs1 (strp s) r' outer depth) = q3' at *
          have hb3 : byte (strp s) q3'.i = byte s q3.i := by rw [hR3.i, hi3]; exact hKE.at
          have hKK : ∀ kk, Rl s (setKP q3 r.st.length kk) (setKP q3' r.st.length kk) := fun kk => ⟨hR3.i, by
            show (q3'.st.modify _ _).map eS = (q3.st.modify _ _).map eS
            rw [map_modify eS _ (fun x => { x with kind := kk }) (fun x => rfl), map_modify eS _ (fun x => { x with kind := kk }) (fun x => rfl), hR3.st], hR3.tr⟩
          have hIK : ∀ kk, RdInv s (setKP q3 r.st.length kk) := fun kk => ⟨hI3.1, by show (q3.st.modify _ _).length ≤ _; rw [List.length_modify]; exact hI3.2.1, hI3.2.2⟩
          have hIK' : ∀ kk, RdInv (strp s) (setKP q3' r.st.length kk) := fun kk => ⟨hI3'.1, by show (q3'.st.modify _ _).length ≤ _; rw [List.length_modify]; exact hI3'.2.1, hI3'.2.2⟩
          have hgo : ∀ q, RdInv s q → q3.i + 1 ≤ q.i → (rsF s f q (r.st.length : Nat) (depth + 1)).1 = true → GoesR s q (rsF s f q (r.st.length : Nat) (depth + 1)).2 := fun q hq hqi hqk => rsF_goes s f q _ _ hq (by omega) hqk
          have hgo' : ∀ q, RdInv (strp s) q → q3'.i + 1 ≤ q.i → (rsF (strp s) f' q (r.st.length : Nat) (depth + 1)).1 = true → GoesR (strp s) q (rsF (strp s) f' q (r.st.length : Nat) (depth + 1)).2 := fun q hq hqi hqk => rsF_goes (strp s) f' q _ _ hq (by omega) hqk
          have hgg : ∀ q q', Rl s q q' → RdInv s q → RdInv (strp s) q' → q3.i + 1 ≤ q.i → q3'.i + 1 ≤ q'.i → (rsF s f q (r.st.length : Nat) (depth + 1)).1 = true → Gd s (rsF s f q (r.st.length : Nat) (depth + 1)).2.i → (rsF (strp s) f' q' (r.st.length : Nat) (depth + 1)).1 = true ∧ Rl s (rsF s f q (r.st.length : Nat) (depth + 1)).2 (rsF (strp s) f' q' (r.st.length : Nat) (depth + 1)).2 :=
            fun q q' a1 a2 a3 a4 a5 a6 a7 => rs_strip s f f' q q' _ _ a1 a2 a3 (by omega) (by omega) a6 a7
          have h4 : (rs4 s (fun q => rsF s f q (r.st.length : Nat) (depth + 1)) r.st.length q3).1 = true → (rs4 (strp s) (fun q => rsF (strp s) f' q (r.st.length : Nat) (depth + 1)) r.st.length q3').1 = true ∧ Rl s (rs4 s (fun q => rsF s f q (r.st.length : Nat) (depth + 1)) r.st.length q3).2 (rs4 (strp s) (fun q => rsF (strp s) f' q (r.st.length : Nat) (depth + 1)) r.st.length q3').2 := by
            unfold rs4
            rw [hb3]
            by_cases hb40 : byte s q3.i = 40
            · rw [if_pos hb40, if_pos hb40]
              exact rp_strip s _ _ 41 (Or.inl rfl) 1 (setKP q3 r.st.length 1) (setKP q3' r.st.length 1) (hKK 1) (hIK 1) (hIK' 1) (Or.inl hb40) hgo hgo' hgg
            · rw [if_neg hb40, if_neg hb40]
              by_cases hb91 : byte s q3.i = 91
              · rw [if_pos hb91, if_pos hb91]
                exact rp_strip s _ _ 93 (Or.inr rfl) 2 (setKP q3 r.st.length 2) (setKP q3' r.st.length 2) (hKK 2) (hIK 2) (hIK' 2) (Or.inr hb91) hgo hgo' hgg
              · rw [if_neg hb91, if_neg hb91]
                exact fun _ => ⟨rfl, hR3⟩
          generalize rs4 s (fun q => rsF s f q (r.st.length : Nat) (depth + 1)) r.st.length q3 = q4 at *
          generalize rs4 (strp s) (fun q => rsF (strp s) f' q (r.st.length : Nat) (depth + 1)) r.st.length q3' = q4' at *
          unfold rs5 at hok hG ⊢
          by_cases h5 : q4.1 = false
          · rw [if_pos h5, h5] at hok; cases hok
          · rw [if_neg h5] at hok hG ⊢
            obtain ⟨z1, z2⟩ := h4 (by simpa using h5)
            rw [if_neg (by rw [z1]; decide)]
            refine rl_strip s r.st.length _ _ _ (Nat.le_refl _) ⟨z2.i, ?_, z2.tr⟩ hok hG
            show (q4'.2.st.modify _ _).map eS = (q4.2.st.modify _ _).map eS
            rw [map_modify eS _ (fun x => { x with end_ := q4.2.st.length }) (fun x => by rw [rs_len z2]; rfl), map_modify eS _ (fun x => { x with end_ := q4.2.st.length }) (fun x => rfl), z2.st]
theorem rd_strip {s : ByteArray} (h : rcK s = true) : rcK (strp s) = true ∧ (rcR (strp s)).2.st.map eS = (rcR s).2.st.map eS ∧ (rcR (strp s)).2.tr.map eT = (rcR s).2.tr.map eT := by
  rw [rcK, Bool.and_eq_true, beq_iff_eq] at h
  have h0 := rs_strip s (s.size + 1) ((strp s).size + 1) R0 R0 (-1) 1 ⟨rfl, rfl, rfl⟩ ⟨Nat.zero_le _, Nat.le_refl _, Nat.le_refl _⟩ ⟨Nat.zero_le _, Nat.le_refl _, Nat.le_refl _⟩ (by show s.size - 0 < _; omega) (by show (strp s).size - 0 < _; omega) h.1
    (by show Gd s (rcR s).2.i; rw [h.2]; exact ⟨KE.end' s, by rw [byte_out _ _ (by omega)]; decide⟩)
  have h1 : (rcR (strp s)).1 = true ∧ Rl s (rcR s).2 (rcR (strp s)).2 := h0
  refine ⟨?_, h1.2.st, h1.2.tr⟩
  rw [rcK, Bool.and_eq_true, beq_iff_eq]
  exact ⟨h1.1, by rw [h1.2.i, h.2, ph_end]⟩
end Go.Proofs.Ytmolmbeeoecnfaa

/- Own work: a plan without actions and places goes through the same statuses. -/
namespace Go.Proofs.Ytmolmbeeoecnfaa
open Go.RowKit Go.BigFrame
set_option linter.unusedVariables false
set_option linter.unusedSimpArgs false

theorem eS_get (st : List StP) (k : Nat) : (st.map eS)[k]? = (st[k]?).map eS := List.getElem?_map
section
variable (st : List StP)
theorem endAt_e (k : Nat) : endAt (st.map eS) k = endAt st k := by unfold endAt; rw [eS_get]; cases st[k]? <;> rfl
theorem outAt_e (k : Nat) : outAt (st.map eS) k = outAt st k := by unfold outAt; rw [eS_get]; cases st[k]? <;> rfl
theorem kindAt_e (k : Nat) : kindAt (st.map eS) k = kindAt st k := by unfold kindAt; rw [eS_get]; cases st[k]? <;> rfl
theorem nameAt_e (k : Nat) : nameAt (st.map eS) k = nameAt st k := by unfold nameAt; rw [eS_get]; cases st[k]? <;> rfl
theorem isB_e : isB (st.map eS) = isB st := by funext a b; unfold isB; rw [endAt_e]
theorem inA_e : inA (st.map eS) = inA st := by funext a b c; unfold inA; rw [outAt_e]
theorem inAm_e : inAm (st.map eS) = inAm st := by funext a b; unfold inAm; rw [inA_e, endAt_e]
theorem inT_e : inT (st.map eS) = inT st := by funext a b c; unfold inT; rw [outAt_e, isB_e]
theorem inTo_e : inTo (st.map eS) = inTo st := by funext a b; unfold inTo; rw [inT_e, endAt_e]
theorem scF_e (ts : Nat) : ∀ (f : Nat) (s : Int), scF (st.map eS) ts f s = scF st ts f s
  | 0, s => rfl
  | f + 1, s => by unfold scF; rw [kindAt_e, isB_e, outAt_e, scF_e ts f]
theorem scOf_e (t : TrQ) : scOf (st.map eS) (eT t) = scOf st t := by
  unfold scOf; rw [scF_e, List.length_map, outAt_e]; rfl
theorem actB_e : actB (st.map eS) = actB st := by funext a b; unfold actB; rw [endAt_e]
theorem lefB_e (act : List Bool) (t : TrQ) : lefB (st.map eS) act (eT t) = lefB st act t := by unfold lefB; rw [scOf_e, actB_e]
theorem fiOf_e (t : TrQ) : fiOf (st.map eS) (eT t) = fiOf st t := by unfold fiOf; rw [scOf_e, inTo_e]; rfl
theorem chP_e : chP (st.map eS) = chP st := by funext a b c; unfold chP; rw [isB_e, inTo_e, inAm_e]
theorem rmM_e : rmM (st.map eS) = rmM st := by funext a b c; unfold rmM; rw [actB_e, inAm_e]
theorem rmS_e : rmS (st.map eS) = rmS st := by
  funext a b c; unfold rmS; rw [eS_get, rmM_e]; cases st[b]? <;> rfl
theorem rmF_e (left : List Bool) : ∀ (k : Nat) (p : Py), rmF (st.map eS) left k p = rmF st left k p
  | 0, p => rfl
  | k + 1, p => by unfold rmF; rw [rmS_e, rmF_e left k]
theorem nmK_e (l : List Bool) : ∀ k, nmK (st.map eS) l k = nmK st l k
  | 0 => rfl
  | k + 1 => by unfold nmK; rw [nmK_e l k, nameAt_e]
theorem stT_e (act : List Bool) (mm : List (List Bool)) : ∀ k, stT (st.map eS) act mm k = stT st act mm k
  | 0 => by unfold stT; rw [nmK_e, List.length_map]
  | k + 1 => by unfold stT; rw [stT_e act mm k, nameAt_e, nmK_e, List.length_map]
theorem lvF_e (left : List Bool) : ∀ (k : Nat) (p q : Py), Eqv p q → Eqv (lvF (st.map eS) left k p) (lvF st left k q)
  | 0, p, q, h => h
  | k + 1, p, q, h => by
    rw [lvF, lvF]
    split
    · exact lvF_e left k _ _ ⟨by show p.act.set k false = q.act.set k false; rw [h.1], h.2⟩
    · exact lvF_e left k p q h
theorem itF_e (g g' : Nat → Py → Py) (hg : ∀ i p q, Eqv p q → Eqv (g i p) (g' i q)) : ∀ (n i : Nat) (p q : Py), Eqv p q → Eqv (itF g n i p) (itF g' n i q)
  | 0, i, p, q, h => h
  | n + 1, i, p, q, h => itF_e g g' hg n (i + 1) _ _ (hg i p q h)
theorem enF_e : ∀ (f s : Nat) (a : Am) (p q : Py), Eqv p q → Eqv (enF (st.map eS) f s a p) (enF st f s a q)
  | 0, s, a, p, q, h => h
  | f + 1, s, a, p, q, h => by
    cases hx : st[s]? with
    | none =>
      have hx' : (st.map eS)[s]? = none := by rw [eS_get, hx]; rfl
      simp only [enF, hx, hx']; exact h
    | some x =>
      have hx' : (st.map eS)[s]? = some (eS x) := by rw [eS_get, hx]; rfl
      have h1 : Eqv { p with act := p.act.set s true, out := p.out ++ bls (eS x).enter } { q with act := q.act.set s true, out := q.out ++ bls x.enter } := ⟨by show p.act.set s true = q.act.set s true; rw [h.1], h.2⟩
      by_cases h2 : x.kind = 2
      · rw [enF_and hx h2, enF_and hx' h2]
        refine itF_e _ _ ?_ _ _ _ _ h1
        intro i p' q' hpq
        rw [outAt_e]
        split
        · exact enF_e f i a p' q' hpq
        · exact hpq
      · by_cases h3 : x.kind = 1
        · rw [enF_or hx h3, enF_or hx' h3, h.2, chP_e]
          exact enF_e f _ _ _ _ ⟨h1.1, rfl⟩
        · rw [enF_leaf hx h2 h3, enF_leaf hx' h2 h3]
          exact h1
theorem tkF_e (t : TrQ) (p q : Py) (h : Eqv p q) : Eqv (tkF (st.map eS) (eT t) p) (tkF st t q) := by
  unfold tkF
  rw [h.1, lefB_e, fiOf_e, List.length_map, rmF_e]
  exact enF_e st 26 _ _ _ _ (lvF_e st _ _ _ _ (rmF_eqv st _ _ _ _ h))
/-! The transitions. -/
def eH (t : TrH) : TrH := ⟨eT t.q, t.cv⟩
theorem eH_get (th : List TrH) (k : Nat) : (th.map eH)[k]? = (th[k]?).map eH := List.getElem?_map
theorem holdB_e (act : List Bool) (cs : List CdP) : holdB act (cs.map eC) = holdB act cs := by
  have h : fails act (cs.map eC) = fails act cs := by
    funext k; unfold fails; rw [List.getElem?_map]; cases cs[k]? <;> rfl
  unfold holdB; rw [h, List.length_map]
variable (th : List TrH)
theorem posB_e : posB (th.map eH) = posB th := by
  funext a b c k; unfold posB; rw [eH_get]
  cases th[k]? with
  | none => rfl
  | some t => show (t.q.own == b && (t.q.event == c && holdB a (t.q.conds.map eC))) = _; rw [holdB_e]
theorem fpo_e : fpo (th.map eH) = fpo th := by funext a b c; unfold fpo; rw [posB_e, List.length_map]
theorem cfF_e (act : List Bool) (ev : UInt8) : ∀ (f : Nat) (s : Int), cfF (st.map eS) (th.map eH) act ev f s = cfF st th act ev f s
  | 0, s => rfl
  | f + 1, s => by unfold cfF; rw [fpo_e, outAt_e, cfF_e act ev f]
theorem cl1_e : cl1 (st.map eS) (th.map eH) = cl1 st th := by
  funext a b c d; unfold cl1 cfO; rw [kindAt_e, cfF_e, List.length_map]
theorem clL_e : clL (st.map eS) (th.map eH) = clL st th := by
  funext a b; unfold clL clK; rw [cl1_e, List.length_map]
theorem wc1_e : wc1 (st.map eS) (th.map eH) = wc1 st th := by
  funext a z k; unfold wc1; rw [eH_get]
  cases th[k]? with
  | none => rfl
  | some t =>
    show (if mts (lefB (st.map eS) a (eT t.q)) z.2 = true then z else (z.1 ++ [k], unK z.2 (lefB (st.map eS) a (eT t.q)) 26)) = _
    rw [lefB_e]
theorem tkn_e : tkn (st.map eS) (th.map eH) = tkn st th := by
  funext a b; unfold tkn wcL; rw [wc1_e, clL_e]
theorem tk1_e (p q : Py) (n : Nat) (h : Eqv p q) : Eqv (tk1 (st.map eS) (th.map eH) p n) (tk1 st th q n) := by
  unfold tk1; rw [eH_get]
  cases th[n]? with
  | none => exact h
  | some t => exact tkF_e st t.q p q h
theorem fold_e : ∀ (ns : List Nat) (p q : Py), Eqv p q → Eqv (ns.foldl (tk1 (st.map eS) (th.map eH)) p) (ns.foldl (tk1 st th) q)
  | [], p, q, h => h
  | n :: ns, p, q, h => by
    rw [List.foldl_cons, List.foldl_cons]
    exact fold_e ns _ _ (tk1_e st th p q n h)
theorem evStep_e (p q : Py) (ev : UInt8) (h : Eqv p q) : Eqv (evStep (st.map eS) (th.map eH) p ev) (evStep st th q ev) := by
  unfold evStep spF
  show Eqv ((tkn (st.map eS) (th.map eH) p.act ev).foldl _ _) ((tkn st th q.act ev).foldl _ _)
  rw [h.1, tkn_e]
  exact fold_e st th _ _ _ ⟨rfl, h.2⟩
theorem plK_e (es : ByteArray) : ∀ k, Eqv (plK (st.map eS) (th.map eH) es k) (plK st th es k)
  | 0 => enF_e st 26 0 Am.free py0 py0 (Eqv.refl _)
  | k + 1 => evStep_e st th _ _ _ (plK_e es k)
end
/-! The errors, the marks. -/
theorem idxP_e (st : List StP) : idxP (st.map eS) = idxP st := by
  have h : isNmP (st.map eS) = isNmP st := by funext c k; unfold isNmP; rw [eS_get]; cases st[k]? <;> rfl
  funext c; unfold idxP; rw [h, List.length_map]
theorem dpP_e (st : List StP) : dpP (st.map eS) = dpP st := by funext k; unfold dpP; rw [eS_get]; cases st[k]? <;> rfl
theorem twP_e (st : List StP) : twP (st.map eS) = twP st := by funext k; unfold twP; rw [eS_get, idxP_e]; cases st[k]? <;> rfl
theorem kdP_e (st : List StP) : kdP (st.map eS) = kdP st := by funext k; unfold kdP; rw [eS_get]; cases st[k.toNat]? <;> rfl
theorem ftd_e {st st' : List StP} (h : st'.map eS = st.map eS) (h1 : ftd st = -1) : ftd st' = -1 := by
  have e : firstB (dpP st') st'.length = firstB (dpP st) st.length := by
    have hl : st'.length = st.length := by simpa using congrArg List.length h
    rw [← dpP_e st', ← dpP_e st, h, hl]
  have := ftd_none (st := st')
  rw [e, ftd_none (st := st)] at this
  have h2 := this.1 (by simp [h1])
  exact Decidable.not_not.1 h2
theorem ftw_e {st st' : List StP} (h : st'.map eS = st.map eS) (h1 : ftw st = -1) : ftw st' = -1 := by
  have e : firstB (twP st') st'.length = firstB (twP st) st.length := by
    have hl : st'.length = st.length := by simpa using congrArg List.length h
    rw [← twP_e st', ← twP_e st, h, hl]
  have := ftw_none (st := st')
  rw [e, ftw_none (st := st)] at this
  have h2 := this.1 (by simp [h1])
  exact Decidable.not_not.1 h2
/-- All names of a transition are known. -/
def NmOk (st : List StP) (t : TrQ) : Prop := (∀ c ∈ t.conds, ¬ idxP st c.name < 0) ∧ ¬ idxP st t.tn < 0
theorem rsv_iff (st : List StP) (tr : List TrQ) : rsv st tr = -1 ↔ ∀ t ∈ tr, NmOk st t := by
  unfold rsv
  constructor
  · intro h t ht
    have hn : (tr.flatMap refsQ).find? (badR st) = none := by
      cases e : (tr.flatMap refsQ).find? (badR st) with
      | none => rfl
      | some x => rw [e] at h; simp only at h; omega
    rw [List.find?_eq_none] at hn
    refine ⟨fun c hc => ?_, ?_⟩
    · have := hn (c.name, c.place) (List.mem_flatMap.2 ⟨t, ht, by unfold refsQ; exact List.mem_append.2 (Or.inl (List.mem_map.2 ⟨c, hc, rfl⟩))⟩)
      simpa [badR] using this
    · have := hn (t.tn, t.tp) (List.mem_flatMap.2 ⟨t, ht, by unfold refsQ; simp⟩)
      simpa [badR] using this
  · intro h
    have hn : (tr.flatMap refsQ).find? (badR st) = none := by
      rw [List.find?_eq_none]
      intro x hx
      obtain ⟨t, ht, hx⟩ := List.mem_flatMap.1 hx
      unfold refsQ at hx
      rcases List.mem_append.1 hx with hx | hx
      · obtain ⟨c, hc, rfl⟩ := List.mem_map.1 hx
        simpa [badR] using (h t ht).1 c hc
      · simp only [List.mem_cons, List.not_mem_nil, or_false] at hx
        subst hx
        simpa [badR] using (h t ht).2
    rw [hn]
theorem mrk_iff (st : List StP) (tr : List TrQ) : mrk st tr = -1 ↔ ∀ t ∈ tr, badM st t = false := by
  unfold mrk
  constructor
  · intro h t ht
    have hn : tr.find? (badM st) = none := by
      cases e : tr.find? (badM st) with
      | none => rfl
      | some x => rw [e] at h; simp only at h; omega
    rw [List.find?_eq_none] at hn
    simpa using hn t ht
  · intro h
    have hn : tr.find? (badM st) = none := by rw [List.find?_eq_none]; intro t ht; simp [h t ht]
    rw [hn]
theorem all_e {tr tr' : List TrQ} (h : tr'.map eT = tr.map eT) {P P' : TrQ → Prop} (hP : ∀ t t', eT t' = eT t → P t → P' t') (h1 : ∀ t ∈ tr, P t) : ∀ t ∈ tr', P' t := by
  intro t' ht'
  have h2 : eT t' ∈ tr.map eT := by rw [← h]; exact List.mem_map.2 ⟨t', ht', rfl⟩
  obtain ⟨t, ht, he⟩ := List.mem_map.1 h2
  exact hP t t' he.symm (h1 t ht)
theorem nmOk_e {st st' : List StP} (hs : st'.map eS = st.map eS) (t t' : TrQ) (h : eT t' = eT t) (h1 : NmOk st t) : NmOk st' t' := by
  have e : idxP st' = idxP st := by rw [← idxP_e st', hs, idxP_e]
  have hc : t'.conds.map eC = t.conds.map eC := by have h0 : (eT t').conds = (eT t).conds := congrArg TrQ.conds h; exact h0
  have ht : t'.tn = t.tn := by have h0 : (eT t').tn = (eT t).tn := congrArg TrQ.tn h; exact h0
  refine ⟨fun c hc' => ?_, by rw [e, ht]; exact h1.2⟩
  have h2 : eC c ∈ t.conds.map eC := by rw [← hc]; exact List.mem_map.2 ⟨c, hc', rfl⟩
  obtain ⟨d, hd, he⟩ := List.mem_map.1 h2
  have hn : d.name = c.name := by have h0 : (eC d).name = (eC c).name := congrArg CdP.name he; exact h0
  rw [e, ← hn]
  exact h1.1 d hd
theorem resQ_e {st st' : List StP} (hs : st'.map eS = st.map eS) (tr tr' : List TrQ) (h : tr'.map eT = tr.map eT) : (tr'.map (resQ st')).map eT = (tr.map (resQ st)).map eT := by
  have e : idxP st' = idxP st := by rw [← idxP_e st', hs, idxP_e]
  have hc : ∀ t, eT (resQ st t) = resQ st (eT t) := fun t => by
    unfold eT resQ
    simp only [List.map_map]
    congr 1
  have hr : resQ st' = resQ st := by
    have : resC st' = resC st := by funext c; unfold resC; rw [e]
    funext t; unfold resQ; rw [this, e]
  rw [hr, List.map_map, List.map_map]
  have h2 : eT ∘ resQ st = resQ st ∘ eT := by funext t; exact hc t
  rw [h2, ← List.map_map, ← List.map_map, h]
theorem mark1_e (st : List StP) (t : TrQ) : (mark1 st t).map eS = mark1 (st.map eS) (eT t) := by
  unfold mark1
  show _ = if t.mark = 0 then _ else if t.mark = 42 then ((st.map eS).modify t.ts.toNat setRem).modify t.ts.toNat setWh else (st.map eS).modify t.ts.toNat setRem
  split
  · rfl
  · split
    · rw [map_modify eS setWh setWh (fun x => rfl), map_modify eS setRem setRem (fun x => rfl)]
    · rw [map_modify eS setRem setRem (fun x => rfl)]
theorem markF_e : ∀ (tr : List TrQ) (st : List StP), (tr.foldl mark1 st).map eS = (tr.map eT).foldl mark1 (st.map eS)
  | [], st => rfl
  | t :: tr, st => by rw [List.foldl_cons, markF_e tr, mark1_e]; rfl
theorem unE_mk {s : ByteArray} (h1 : s.size ≤ 160) (h2 : rcK s = true) (h3 : ftd (rcR s).2.st = -1) (h4 : ftw (rcR s).2.st = -1) (h5 : rsv (rcR s).2.st (rcR s).2.tr = -1) (h6 : mrk (rcR s).2.st ((rcR s).2.tr.map (resQ (rcR s).2.st)) = -1) : unE s = (0, 0) := by
  unfold unE
  rw [if_neg (by omega), if_neg (by rw [h2]; decide), if_neg (by simp [h3]), if_neg (by simp [h4]), if_neg (by simp [h5]), if_neg (by simp [h6])]
theorem unE_ftd {s : ByteArray} (h : (unE s).1 = 0) : ftd (rcR s).2.st = -1 := by
  have h1 := unE_ok h
  unfold unE at h
  rw [if_neg (by omega), if_neg (by rw [h1.2.1]; decide)] at h
  by_cases h2 : ftd (rcR s).2.st ≠ -1
  · rw [if_pos h2] at h; cases h
  · exact Decidable.not_not.1 h2
theorem un_strip {s : ByteArray} (h : (unE s).1 = 0) : unE (strp s) = (0, 0) ∧ (unSt (strp s)).map eS = (unSt s).map eS ∧ (unTr (strp s)).map eT = (unTr s).map eT := by
  obtain ⟨a1, a2, a3, a4, a5⟩ := unE_ok h
  have a6 := unE_ftd h
  obtain ⟨b1, b2, b3⟩ := rd_strip a2
  have b4 := resQ_e b2 _ _ b3
  refine ⟨unE_mk (by have := strp_le s; omega) b1 (ftd_e b2 a6) (ftw_e b2 a3) ?_ ?_, ?_, b4⟩
  · rw [rsv_iff] at a4 ⊢
    exact all_e b3 (nmOk_e b2) a4
  · rw [mrk_iff] at a5 ⊢
    refine all_e b4 (fun t t' he h1 => ?_) a5
    have e : kdP (rcR (strp s)).2.st = kdP (rcR s).2.st := by rw [← kdP_e, b2, kdP_e]
    have e1 : t'.mark = t.mark := by have h0 : (eT t').mark = (eT t).mark := congrArg TrQ.mark he; exact h0
    have e2 : t'.ts = t.ts := by have h0 : (eT t').ts = (eT t).ts := congrArg TrQ.ts he; exact h0
    unfold badM at h1 ⊢
    rw [e, e1, e2]; exact h1
  · unfold unSt
    rw [markF_e, markF_e, b2, b4]
/-- The statuses are the same. -/
theorem strip_st {s : ByteArray} (h : (unE s).1 = 0) (es : ByteArray) : pS (strp s) es = pS s es := by
  obtain ⟨h1, h2, h3⟩ := un_strip h
  have hq : ((th0 (strp s)).map eH).map TrH.q = ((th0 s).map eH).map TrH.q := by
    have e : ∀ z, ((th0 z).map eH).map TrH.q = (unTr z).map eT := fun z => by unfold th0; rw [List.map_map, List.map_map]; rfl
    rw [e, e, h3]
  have e1 := plK_e (unSt (strp s)) (th0 (strp s)) es es.size
  have e2 := plK_e (unSt s) (th0 s) es es.size
  rw [h2, plK_congr hq] at e1
  have ea : (plQ (strp s) es).act = (plQ s es).act := e1.1.symm.trans e2.1
  have em : (plQ (strp s) es).mm = (plQ s es).mm := e1.2.symm.trans e2.2
  have hl : (unSt (strp s)).length = (unSt s).length := by simpa using congrArg List.length h2
  rw [pS, pS, if_pos h, if_pos (by rw [h1]), ea, em, ← stT_e (unSt (strp s)), h2, stT_e, hl]
end Go.Proofs.Ytmolmbeeoecnfaa
