/- Own work: a chart's text without its actions is read alike. -/
import Derived.Test.YtmolmbeeoecnfaaIdA
import Derived.Test.YtmolmbeeoecnfaaSiW
namespace Go.Proofs.Ytmolmbeeoecnfaa
open Go.RowKit Go.BigFrame
set_option linter.unusedVariables false
set_option linter.unusedSimpArgs false

/-- How many of the first i bytes stay. -/
def ph (s : ByteArray) (i : Nat) : Nat := ((s.data.toList.take i).filter kp).length
theorem ph_succ (s : ByteArray) (i : Nat) (h : i < s.size) : (s.data.toList.take (i + 1)).filter kp = (s.data.toList.take i).filter kp ++ (if kp (byte s i) = true then [byte s i] else []) := by
  have h1 : i < s.data.toList.length := h
  rw [List.take_succ_eq_append_getElem h1, List.filter_append]
  have h2 : s.data.toList[i] = byte s i := by rw [byte_in s i h]; rfl
  rw [h2]
  congr 1
  by_cases hk : kp (byte s i) = true
  · simp [hk]
  · simp [hk]
theorem ph_keep (s : ByteArray) (i : Nat) (h : i < s.size) (hk : kp (byte s i) = true) : ph s (i + 1) = ph s i + 1 := by
  unfold ph; rw [ph_succ s i h, if_pos hk]; simp
theorem ph_drop (s : ByteArray) (i : Nat) (h : i < s.size) (hk : kp (byte s i) = false) : ph s (i + 1) = ph s i := by
  unfold ph; rw [ph_succ s i h, if_neg (by simp [hk])]; simp
theorem ph_end (s : ByteArray) : ph s s.size = (strp s).size := by
  unfold ph strp
  rw [List.take_of_length_le (by exact Nat.le_refl _)]
  rfl
theorem ph_le (s : ByteArray) (i : Nat) : ph s i ≤ (strp s).size := by
  have h : (s.data.toList.take i).filter kp <+: s.data.toList.filter kp := (List.take_prefix _ _).filter kp
  exact h.length_le
theorem strp_le (s : ByteArray) : (strp s).size ≤ s.size := List.length_filter_le _ _
theorem ph_byte (s : ByteArray) (i : Nat) (h : i < s.size) (hk : kp (byte s i) = true) : byte (strp s) (ph s i) = byte s i := by
  have h1 := ph_keep s i h hk
  have h2 := ph_le s (i + 1)
  rw [byte_in _ _ (by omega)]
  have hpre : (s.data.toList.take (i + 1)).filter kp <+: s.data.toList.filter kp := (List.take_prefix _ _).filter kp
  have h3 : ((s.data.toList.take (i + 1)).filter kp)[ph s i]? = some (byte s i) := by
    unfold ph
    rw [ph_succ s i h, if_pos hk, List.getElem?_append_right (Nat.le_refl _)]
    simp
  have h4 : (s.data.toList.filter kp)[ph s i]? = some (byte s i) := by
    obtain ⟨t, ht⟩ := hpre
    rw [← ht, List.getElem?_append_left (List.getElem?_eq_some_iff.1 h3).1, h3]
  have h5 : (strp s).data.toList[ph s i]? = some (byte s i) := h4
  obtain ⟨h6, h7⟩ := List.getElem?_eq_some_iff.1 h5
  exact h7
/-- Here stands a byte that stays, or the text ends. -/
def KE (s : ByteArray) (i : Nat) : Prop := i ≤ s.size ∧ kp (byte s i) = true
theorem KE.lt {s : ByteArray} {i : Nat} (h0 : i < s.size) (h : kp (byte s i) = true) : KE s i := ⟨by omega, h⟩
theorem KE.at {s : ByteArray} {i : Nat} (h : KE s i) : byte (strp s) (ph s i) = byte s i := by
  by_cases h1 : i < s.size
  · exact ph_byte s i h1 h.2
  · have e : i = s.size := by have := h.1; omega
    subst e
    rw [ph_end, byte_out _ _ (by omega), byte_out _ _ (by omega)]
theorem KE.end' (s : ByteArray) : KE s s.size := ⟨Nat.le_refl _, by rw [byte_out _ _ (by omega)]; decide⟩
theorem KE.nd {s : ByteArray} {i : Nat} (h : KE s i) : isD (byte s i) = false ∧ byte s i ≠ 43 ∧ byte s i ≠ 45 := by
  have := h.2
  unfold kp at this
  simp only [Bool.and_eq_true, Bool.not_eq_true', beq_eq_false_iff_ne] at this
  exact ⟨this.1.1, this.1.2, this.2⟩
theorem all_u8 {P : UInt8 → Prop} (h : ∀ n : Fin 256, P (UInt8.ofNat n.val)) (c : UInt8) : P c := by
  have h1 := h ⟨c.toNat, c.toNat_lt⟩
  rwa [UInt8.ofNat_toNat] at h1
theorem kp_of {c : UInt8} (h : isN c = true ∨ isE c = true ∨ c = 47 ∨ c = 62 ∨ c = 40 ∨ c = 91 ∨ c = 41 ∨ c = 93 ∨ isMk c = true ∨ isC c = true) : kp c = true := by
  have key : ∀ c : UInt8, (isN c = true ∨ isE c = true ∨ c = 47 ∨ c = 62 ∨ c = 40 ∨ c = 91 ∨ c = 41 ∨ c = 93 ∨ isMk c = true ∨ isC c = true) → kp c = true := all_u8 (by decide +kernel)
  exact key c h
theorem isN_nm {c : UInt8} (h : isN c = true) : isMk c = false := by
  have key : ∀ c : UInt8, isN c = true → isMk c = false := all_u8 (by decide +kernel)
  exact key c h
theorem ph_run (s : ByteArray) (i : Nat) : ∀ j, i ≤ j → j ≤ s.size → (∀ k, i ≤ k → k < j → kp (byte s k) = false) → ph s j = ph s i
  | 0, h1, h2, h3 => by have : i = 0 := by omega
                        subst this; rfl
  | j + 1, h1, h2, h3 => by
    by_cases e : i = j + 1
    · rw [e]
    · rw [ph_drop s j (by omega) (h3 j (by omega) (by omega))]
      exact ph_run s i j (by omega) (by omega) (fun k a b => h3 k a (by omega))
theorem ph_dend (s : ByteArray) (i : Nat) (h : i ≤ s.size) : ph s (dend s i) = ph s i :=
  ph_run s i _ (dend_ge s i) (dend_le s i h) (fun k a b => by
    have := dend_dig s i k a b
    unfold kp; rw [this]; rfl)
theorem kp43 : kp 43 = false := by decide
theorem kp45 : kp 45 = false := by decide
theorem ph_ab (s : ByteArray) (sg : UInt8) (hs : kp sg = false) (i : Nat) (h : i ≤ s.size) : ph s (abI s sg i) = ph s i := by
  unfold abI; split
  · rename_i h1
    have h2 : i < s.size := by
      by_cases h3 : i < s.size
      · exact h3
      · rw [byte_out s i h3] at h1; subst h1; exact absurd hs (by decide)
    rw [ph_dend s (i + 1) h2, ph_drop s i h2 (by rw [h1]; exact hs)]
  · rfl

/-! What stays of a plan. -/
def eC (c : CdP) : CdP := { c with place := 0 }
def eT (t : TrQ) : TrQ := { t with conds := t.conds.map eC, tp := 0, mp := 0, acts := ⟨#[]⟩ }
def eS (x : StP) : StP := { x with place := 0, enter := ⟨#[]⟩, leave := ⟨#[]⟩ }

theorem rc_strip (s : ByteArray) : ∀ (n i : Nat) (a a' : List CdP), s.size - i ≤ n → i ≤ s.size → a'.map eC = a.map eC → (rcP s i a).1 = true → byte s (rcP s i a).2.1 = 62 →
    (rcP (strp s) (ph s i) a').1 = true ∧ (rcP (strp s) (ph s i) a').2.1 = ph s (rcP s i a).2.1 ∧ (rcP (strp s) (ph s i) a').2.2.map eC = (rcP s i a).2.2.map eC := by
  intro n
  induction n with
  | zero =>
    intro i a a' h1 h2 ha h3 h4
    by_cases hc : isC (byte s i) = true
    · have := isC_b s i hc; omega
    · have hc' : isC (byte s i) = false := by simpa using hc
      rw [rcP_stop s i a hc'] at h4 ⊢
      simp only at h4
      rw [rcP_stop (strp s) (ph s i) a' (by rw [(KE.lt (sg_in s 62 i (by decide) h4) (kp_of (by simp [h4]))).at]; exact hc')]
      exact ⟨rfl, rfl, ha⟩
  | succ n ih =>
    intro i a a' h1 h2 ha h3 h4
    by_cases hc : isC (byte s i) = true
    · have hi := isC_b s i hc
      by_cases hn : isN (byte s (i + 1)) = true
      · have hi2 := isN_b s _ hn
        have k1 : kp (byte s i) = true := kp_of (by simp [hc])
        have k2 : kp (byte s (i + 1)) = true := kp_of (by simp [hn])
        have p1 := ph_keep s i hi k1
        have p2 := ph_keep s (i + 1) hi2 k2
        have b1 := ph_byte s i hi k1
        have b2 := ph_byte s (i + 1) hi2 k2
        rw [p1] at p2 b2
        rw [rcP_go s i a hc hn] at h3 h4 ⊢
        rw [rcP_go (strp s) (ph s i) a' (by rw [b1]; exact hc) (by rw [b2]; exact hn), ← p2, b1, b2]
        refine ih (i + 2) _ _ (by omega) (by omega) ?_ h3 h4
        rw [List.map_append, List.map_append, ha]
        rfl
      · have hn' : isN (byte s (i + 1)) = false := by simpa using hn
        rw [rcP_bad s i a hc hn'] at h3
        cases h3
    · have hc' : isC (byte s i) = false := by simpa using hc
      rw [rcP_stop s i a hc'] at h4 ⊢
      simp only at h4
      rw [rcP_stop (strp s) (ph s i) a' (by rw [(KE.lt (sg_in s 62 i (by decide) h4) (kp_of (by simp [h4]))).at]; exact hc')]
      exact ⟨rfl, rfl, ha⟩

/-- Here something may go on behind a transition or a state. -/
def Gd (s : ByteArray) (i : Nat) : Prop := KE s i ∧ isMk (byte s i) = false
theorem rtP_yes {s : ByteArray} {own i : Nat} (h : (rtP s own i).1 = true) : isE (byte s (i + 1)) = true ∧ (rcP s (i + 2) []).1 = true ∧ byte s (rcP s (i + 2) []).2.1 = 62 ∧ isN (byte s ((rcP s (i + 2) []).2.1 + 1)) = true := by
  unfold rtP at h
  simp only at h
  by_cases h1 : isE (byte s (i + 1)) = false
  · rw [if_pos h1] at h; cases h
  · rw [if_neg h1] at h
    by_cases h2 : (rcP s (i + 2) []).1 = false
    · rw [if_pos h2] at h; cases h
    · rw [if_neg h2] at h
      by_cases h3 : byte s (rcP s (i + 2) []).2.1 ≠ 62
      · rw [if_pos h3] at h; cases h
      · rw [if_neg h3] at h
        by_cases h4 : isN (byte s ((rcP s (i + 2) []).2.1 + 1)) = false
        · rw [if_pos h4] at h; cases h
        · exact ⟨by simpa using h1, by simpa using h2, by simpa using h3, by simpa using h4⟩
theorem rtP_is {s : ByteArray} {own i : Nat} (h1 : isE (byte s (i + 1)) = true) (h2 : (rcP s (i + 2) []).1 = true) (h3 : byte s (rcP s (i + 2) []).2.1 = 62) (h4 : isN (byte s ((rcP s (i + 2) []).2.1 + 1)) = true) :
    rtP s own i = (true, dend s (rmI s ((rcP s (i + 2) []).2.1 + 2)),
    ⟨own, byte s (i + 1), (rcP s (i + 2) []).2.2, byte s ((rcP s (i + 2) []).2.1 + 1), (rcP s (i + 2) []).2.1 + 1, -1, rmC s ((rcP s (i + 2) []).2.1 + 2), (rcP s (i + 2) []).2.1 + 2, cut s (rmI s ((rcP s (i + 2) []).2.1 + 2)) (dend s (rmI s ((rcP s (i + 2) []).2.1 + 2)))⟩) := by
  unfold rtP
  simp only
  rw [if_neg (by simp [h1]), if_neg (by simp [h2]), if_neg (by simp [h3]), if_neg (by simp [h4])]
theorem rt_strip (s : ByteArray) (own i : Nat) (hb : byte s i = 47) (h : (rtP s own i).1 = true) (hg : Gd s (rtP s own i).2.1) :
    (rtP (strp s) own (ph s i)).1 = true ∧ (rtP (strp s) own (ph s i)).2.1 = ph s (rtP s own i).2.1 ∧ eT (rtP (strp s) own (ph s i)).2.2 = eT (rtP s own i).2.2 := by
  obtain ⟨h1, h2, h3, h4⟩ := rtP_yes h
  have l0 := sg_in s 47 i (by decide) hb
  have l1 := isE_b s _ h1
  have l4 := isN_b s _ h4
  have k0 : kp (byte s i) = true := kp_of (by simp [hb])
  have k1 : kp (byte s (i + 1)) = true := kp_of (by simp [h1])
  have p0 := ph_keep s i l0 k0
  have p1 := ph_keep s (i + 1) l1 k1
  have b1 := ph_byte s (i + 1) l1 k1
  rw [p0] at p1 b1
  have hrc := rc_strip s _ (i + 2) [] [] (Nat.le_refl _) (by omega) rfl h2 h3
  rw [show i + 1 + 1 = i + 2 from rfl] at p1
  rw [p1] at hrc
  rw [rtP_is h1 h2 h3 h4] at hg ⊢
  simp only at hg ⊢
  generalize hA : (rcP s (i + 2) []).2.1 = A at *
  generalize hC : (rcP s (i + 2) []).2.2 = C at *
  have l3 := sg_in s 62 A (by decide) h3
  have k3 : kp (byte s A) = true := kp_of (by simp [h3])
  have k4 : kp (byte s (A + 1)) = true := kp_of (by simp [h4])
  have p3 := ph_keep s A l3 k3
  have p4 := ph_keep s (A + 1) l4 k4
  have b3 := ph_byte s A l3 k3
  have b4 := ph_byte s (A + 1) l4 k4
  rw [p3] at p4 b4
  rw [show A + 1 + 1 = A + 2 from rfl] at p4
  obtain ⟨q1, q2, q3⟩ := hrc
  rw [rtP_is (own := own) (by rw [b1]; exact h1) q1 (by rw [q2, b3]; exact h3) (by rw [q2, b4]; exact h4)]
  simp only
  rw [q2, b1, b4]
  have hm : rmI (strp s) (ph s A + 2) = ph s (rmI s (A + 2)) ∧ rmC (strp s) (ph s A + 2) = rmC s (A + 2) := by
    rw [← p4]
    by_cases hk : isMk (byte s (A + 2)) = true
    · have l5 := isMk_b s _ hk
      have k5 : kp (byte s (A + 2)) = true := kp_of (by simp [hk])
      have p5 := ph_keep s (A + 2) l5 k5
      have b5 := ph_byte s (A + 2) l5 k5
      unfold rmI rmC
      rw [b5, if_pos hk, if_pos hk, if_pos hk]
      exact ⟨by rw [p5], rfl⟩
    · have e : rmI s (A + 2) = A + 2 := by unfold rmI; rw [if_neg hk]
      rw [e] at hg
      have p6 := ph_dend s (A + 2) (by omega)
      have b6 := hg.1.at
      rw [p6] at b6
      have hk2 : ¬ isMk (byte (strp s) (ph s (A + 2))) = true := by rw [b6, hg.2]; simp
      unfold rmI rmC
      rw [if_neg hk, if_neg hk, if_neg hk2, if_neg hk2]
      exact ⟨rfl, rfl⟩
  rw [hm.1, hm.2]
  have hr := (rmI_bd s (A + 2) (by omega)).2
  have p7 := ph_dend s (rmI s (A + 2)) hr
  have b7 := hg.1.at
  rw [p7] at b7
  have hd : dend (strp s) (ph s (rmI s (A + 2))) = ph s (rmI s (A + 2)) := dend_stop _ _ (by rw [b7]; exact hg.1.nd.1)
  rw [hd, p7]
  refine ⟨trivial, rfl, ?_⟩
  unfold eT
  simp only
  rw [q3]

/-- Two readings that go along with one another. -/
structure Rl (s : ByteArray) (r r' : Rn) : Prop where
  i : r'.i = ph s r.i
  st : r'.st.map eS = r.st.map eS
  tr : r'.tr.map eT = r.tr.map eT

theorem rl_strip (s : ByteArray) (own : Nat) : ∀ (n : Nat) (r r' : Rn), s.size - r.i ≤ n → Rl s r r' → (rtL s own r).1 = true → Gd s (rtL s own r).2.i → (rtL (strp s) own r').1 = true ∧ Rl s (rtL s own r).2 (rtL (strp s) own r').2 := by
  intro n
  induction n with
  | zero =>
    intro r r' hn hR hk hg
    have hb : byte s r.i ≠ 47 := by intro e; have := sg_in s 47 r.i (by decide) e; omega
    rw [rtL_stop s own r hb] at hg ⊢
    rw [rtL_stop (strp s) own r' (by rw [hR.i, hg.1.at]; exact hb)]
    exact ⟨rfl, hR⟩
  | succ n ih =>
    intro r r' hn hR hk hg
    by_cases hb : byte s r.i = 47
    · have hl := sg_in s 47 r.i (by decide) hb
      by_cases h2 : (rtP s own r.i).1 = true
      · have hbd := rtP_bd s own r.i hl h2
        have hgo := rtL_go s own r hb h2
        rw [hgo] at hk hg ⊢
        have hgd : Gd s (rtP s own r.i).2.1 := by
          by_cases hb2 : byte s (rtP s own r.i).2.1 = 47
          · exact ⟨KE.lt (sg_in s 47 _ (by decide) hb2) (kp_of (by simp [hb2])), by rw [hb2]; decide⟩
          · rw [rtL_stop s own _ hb2] at hg; exact hg
        obtain ⟨q1, q2, q3⟩ := rt_strip s own r.i hb h2 hgd
        have k0 : kp (byte s r.i) = true := kp_of (by simp [hb])
        have b0 := ph_byte s r.i hl k0
        rw [rtL_go (strp s) own r' (by rw [hR.i, b0]; exact hb) (by rw [hR.i]; exact q1)]
        refine ih _ _ (by simp only; omega) ⟨by simp only; rw [hR.i]; exact q2, hR.st, ?_⟩ hk hg
        simp only [List.map_append, List.map_cons, List.map_nil]
        rw [hR.tr, hR.i, q3]
      · have h2' : (rtP s own r.i).1 = false := by simpa using h2
        rw [rtL_bad s own r hb h2'] at hk
        cases hk
    · rw [rtL_stop s own r hb] at hg ⊢
      rw [rtL_stop (strp s) own r' (by rw [hR.i, hg.1.at]; exact hb)]
      exact ⟨rfl, hR⟩
end Go.Proofs.Ytmolmbeeoecnfaa
