/- Own work: a chart's text within another one is read alike. -/
import Derived.Test.YtmolmbeeoecnfaaSiZ
import Derived.Test.YtmolmbeeoecnfaaLgZ
namespace Go.Proofs.Ytmolmbeeoecnfaa
open Go.RowKit Go.BigFrame
set_option linter.unusedVariables false
set_option linter.unusedSimpArgs false

/-- The text t within a new outermost state c. -/
def wrp (c : UInt8) (t : ByteArray) : ByteArray := ⟨#[c]⟩ ++ ⟨#[40]⟩ ++ t ++ ⟨#[41]⟩
theorem wrp_l (c : UInt8) (t : ByteArray) : (wrp c t).data.toList = c :: 40 :: (t.data.toList ++ [41]) := by
  unfold wrp
  simp [ByteArray.data_append]
theorem wrp_sz (c : UInt8) (t : ByteArray) : (wrp c t).size = t.size + 3 := by
  have h : (wrp c t).size = (wrp c t).data.toList.length := rfl
  have h2 : t.size = t.data.toList.length := rfl
  rw [h, wrp_l, h2]; simp
theorem byte_of {S : ByteArray} {k : Nat} {c : UInt8} (h : S.data.toList[k]? = some c) : byte S k = c := by
  obtain ⟨h1, h2⟩ := List.getElem?_eq_some_iff.1 h
  have h3 : k < S.size := h1
  rw [byte_in S k h3]; exact h2
theorem wrp_0 (c : UInt8) (t : ByteArray) : byte (wrp c t) 0 = c := byte_of (by rw [wrp_l]; rfl)
theorem wrp_1 (c : UInt8) (t : ByteArray) : byte (wrp c t) 1 = 40 := byte_of (by rw [wrp_l]; rfl)
theorem wrp_in (c : UInt8) (t : ByteArray) (i : Nat) (h : i < t.size) : byte (wrp c t) (i + 2) = byte t i := by
  apply byte_of
  rw [wrp_l]
  have h1 : i < t.data.toList.length := h
  rw [List.getElem?_cons_succ, List.getElem?_cons_succ, List.getElem?_append_left h1, List.getElem?_eq_getElem h1, byte_in t i h]
  rfl
theorem wrp_end (c : UInt8) (t : ByteArray) : byte (wrp c t) (t.size + 2) = 41 := by
  apply byte_of
  rw [wrp_l, List.getElem?_cons_succ, List.getElem?_cons_succ, List.getElem?_append_right (by exact Nat.le_refl _)]
  have h2 : t.size = t.data.toList.length := rfl
  rw [h2]; simp
/-- A byte, or the end. -/
theorem wrp_or (c : UInt8) (t : ByteArray) (i : Nat) (h : i ≤ t.size) : byte (wrp c t) (i + 2) = byte t i ∨ (byte (wrp c t) (i + 2) = 41 ∧ byte t i = 0) := by
  by_cases e : i < t.size
  · exact Or.inl (wrp_in c t i e)
  · have : i = t.size := by omega
    subst this
    exact Or.inr ⟨wrp_end c t, byte_out _ _ (by omega)⟩
theorem wrp_P {P : UInt8 → Bool} (h41 : P 41 = P 0) (c : UInt8) (t : ByteArray) (i : Nat) (h : i ≤ t.size) : P (byte (wrp c t) (i + 2)) = P (byte t i) := by
  rcases wrp_or c t i h with e | ⟨e1, e2⟩
  · rw [e]
  · rw [e1, e2, h41]
theorem wrp_eq {x : UInt8} (h41 : x ≠ 41) (h0 : x ≠ 0) (c : UInt8) (t : ByteArray) (i : Nat) (h : i ≤ t.size) : byte (wrp c t) (i + 2) = x ↔ byte t i = x := by
  rcases wrp_or c t i h with e | ⟨e1, e2⟩
  · rw [e]
  · rw [e1, e2]
    exact ⟨fun e => absurd e.symm h41, fun e => absurd e.symm h0⟩
theorem cut_wrp (c : UInt8) (t : ByteArray) (i j : Nat) (hij : i ≤ j) (h : j ≤ t.size) : cut (wrp c t) (i + 2) (j + 2) = cut t i j := by
  unfold cut
  rw [wrp_l]
  have h2 : t.size = t.data.toList.length := rfl
  rw [show j + 2 - (i + 2) = j - i by omega, List.drop_succ_cons, List.drop_succ_cons, List.drop_append_of_le_length (by omega), List.take_append_of_le_length (by rw [List.length_drop]; omega)]
theorem dend_wrp (c : UInt8) (t : ByteArray) : ∀ (n i : Nat), t.size - i ≤ n → i ≤ t.size → dend (wrp c t) (i + 2) = dend t i + 2 := by
  intro n
  induction n with
  | zero =>
    intro i h1 h2
    have hd : isD (byte t i) = false := by
      cases e : isD (byte t i) with
      | false => rfl
      | true => have := isD_in t i e; omega
    rw [dend_stop t i hd, dend_stop (wrp c t) (i + 2) (by rw [wrp_P (P := isD) (by decide) c t i h2]; exact hd)]
  | succ n ih =>
    intro i h1 h2
    cases hd : isD (byte t i) with
    | false => rw [dend_stop t i hd, dend_stop (wrp c t) (i + 2) (by rw [wrp_P (P := isD) (by decide) c t i h2]; exact hd)]
    | true =>
      have g1 := dend_go t i hd
      have g2 := dend_go (wrp c t) (i + 2) (by rw [wrp_P (P := isD) (by decide) c t i h2]; exact hd)
      rw [g1.2, g2.2]
      exact ih (i + 1) (by omega) (by omega)
theorem dendW (c : UInt8) (t : ByteArray) (i : Nat) (h : i ≤ t.size) : dend (wrp c t) (i + 2) = dend t i + 2 := dend_wrp c t _ i (Nat.le_refl _) h
theorem abW (c : UInt8) (t : ByteArray) (sg : UInt8) (h41 : sg ≠ 41) (h0 : sg ≠ 0) (i : Nat) (h : i ≤ t.size) :
    abI (wrp c t) sg (i + 2) = abI t sg i + 2 ∧ abK (wrp c t) sg (i + 2) = abK t sg i ∧ abS (wrp c t) sg (i + 2) = abS t sg i := by
  unfold abI abK abS
  by_cases e : byte t i = sg
  · have hl := sg_in t sg i h0 e
    rw [if_pos e, if_pos e, if_pos e, if_pos ((wrp_eq h41 h0 c t i h).2 e), if_pos ((wrp_eq h41 h0 c t i h).2 e), if_pos ((wrp_eq h41 h0 c t i h).2 e)]
    have e1 := dendW c t (i + 1) (by omega)
    rw [show i + 2 + 1 = i + 1 + 2 by omega, e1, wrp_P (P := isD) (by decide) c t (i + 1) (by omega), cut_wrp c t (i + 1) _ (dend_ge t _) (dend_le t _ (by omega))]
    exact ⟨rfl, rfl, rfl⟩
  · have e' : ¬ byte (wrp c t) (i + 2) = sg := fun x => e ((wrp_eq h41 h0 c t i h).1 x)
    rw [if_neg e, if_neg e, if_neg e, if_neg e', if_neg e', if_neg e']
    exact ⟨rfl, rfl, rfl⟩
theorem rmW (c : UInt8) (t : ByteArray) (i : Nat) (h : i ≤ t.size) : rmI (wrp c t) (i + 2) = rmI t i + 2 ∧ rmC (wrp c t) (i + 2) = rmC t i := by
  have hp := wrp_P (P := isMk) (by decide) c t i h
  unfold rmI rmC
  by_cases e : isMk (byte t i) = true
  · have hl := isMk_b t i e
    rw [if_pos e, if_pos e, if_pos (by rw [hp]; exact e), if_pos (by rw [hp]; exact e), wrp_in c t i hl]
    exact ⟨by omega, rfl⟩
  · rw [if_neg e, if_neg e, if_neg (by rw [hp]; exact e), if_neg (by rw [hp]; exact e)]
    exact ⟨rfl, rfl⟩
/-! The shift. -/
def hC (c : CdP) : CdP := { c with place := c.place + 2 }
def hQ (t : TrQ) : TrQ := { t with own := t.own + 1, conds := t.conds.map hC, tp := t.tp + 2, mp := t.mp + 2 }
def hS (x : StP) : StP := { x with place := x.place + 2, depth := x.depth + 1, outer := x.outer + 1, end_ := if x.end_ = 0 then 0 else x.end_ + 1 }
theorem rcW (c : UInt8) (t : ByteArray) : ∀ (n i : Nat) (a : List CdP), t.size - i ≤ n → i ≤ t.size → (rcP t i a).1 = true → rcP (wrp c t) (i + 2) (a.map hC) = (true, (rcP t i a).2.1 + 2, (rcP t i a).2.2.map hC) := by
  intro n
  induction n with
  | zero =>
    intro i a h1 h2 h3
    have hc : isC (byte t i) = false := by
      cases e : isC (byte t i) with
      | false => rfl
      | true => have := isC_b t i e; omega
    rw [rcP_stop t i a hc, rcP_stop (wrp c t) (i + 2) _ (by rw [wrp_P (P := isC) (by decide) c t i h2]; exact hc)]
  | succ n ih =>
    intro i a h1 h2 h3
    have hp := wrp_P (P := isC) (by decide) c t i h2
    cases hc : isC (byte t i) with
    | false => rw [rcP_stop t i a hc, rcP_stop (wrp c t) (i + 2) _ (by rw [hp]; exact hc)]
    | true =>
      have hi := isC_b t i hc
      cases hn : isN (byte t (i + 1)) with
      | false => rw [rcP_bad t i a hc hn] at h3; cases h3
      | true =>
        have hi2 := isN_b t _ hn
        have b1 := wrp_in c t i hi
        have b2 := wrp_in c t (i + 1) hi2
        rw [rcP_go t i a hc hn] at h3 ⊢
        rw [rcP_go (wrp c t) (i + 2) _ (by rw [hp]; exact hc) (by rw [show i + 2 + 1 = i + 1 + 2 by omega, b2]; exact hn)]
        have e : a.map hC ++ [(⟨byte (wrp c t) (i + 2 + 1), i + 2 + 1, -1, byte (wrp c t) (i + 2) == 38⟩ : CdP)] = (a ++ [(⟨byte t (i + 1), i + 1, -1, byte t i == 38⟩ : CdP)]).map hC := by
          rw [List.map_append, show i + 2 + 1 = i + 1 + 2 by omega, b2, b1]; rfl
        rw [e]
        exact ih (i + 2) _ (by omega) (by omega) h3
theorem rtW (c : UInt8) (t : ByteArray) (own i : Nat) (hb : byte t i = 47) (h : (rtP t own i).1 = true) :
    rtP (wrp c t) (own + 1) (i + 2) = (true, (rtP t own i).2.1 + 2, hQ (rtP t own i).2.2) := by
  obtain ⟨h1, h2, h3, h4⟩ := rtP_yes h
  have l0 := sg_in t 47 i (by decide) hb
  have l1 := isE_b t _ h1
  have l4 := isN_b t _ h4
  have hrc := rcW c t _ (i + 2) [] (Nat.le_refl _) (by omega) h2
  have hbd := rcP_bd t (i + 2) [] (by omega)
  rw [rtP_is h1 h2 h3 h4]
  generalize hA : (rcP t (i + 2) []).2.1 = A at *
  generalize hC' : (rcP t (i + 2) []).2.2 = C at *
  have l3 := sg_in t 62 A (by decide) h3
  have e0 : rcP (wrp c t) (i + 2 + 2) [] = (true, A + 2, C.map hC) := hrc
  have b1 := wrp_in c t (i + 1) l1
  have b3 := wrp_in c t A l3
  have b4 := wrp_in c t (A + 1) l4
  rw [rtP_is (s := wrp c t) (own := own + 1) (i := i + 2) (by rw [show i + 2 + 1 = i + 1 + 2 by omega, b1]; exact h1) (by rw [e0]) (by rw [e0]; show byte (wrp c t) (A + 2) = 62; rw [b3]; exact h3) (by rw [e0]; show isN (byte (wrp c t) (A + 2 + 1)) = true; rw [show A + 2 + 1 = A + 1 + 2 by omega, b4]; exact h4)]
  rw [e0]
  simp only
  have hm := rmW c t (A + 2) (by omega)
  have hr := rmI_bd t (A + 2) (by omega)
  have hd := dendW c t (rmI t (A + 2)) hr.2
  rw [show i + 2 + 1 = i + 1 + 2 by omega, show A + 2 + 1 = A + 1 + 2 by omega, b1, b4, hm.1, hm.2, hd, cut_wrp c t _ _ (dend_ge t _) (dend_le t _ hr.2)]
  rfl
/-- What was read, shifted, behind the new outermost state. -/
def hR (z : StP) (r : Rn) : Rn := ⟨r.i + 2, z :: r.st.map hS, r.tr.map hQ⟩
theorem rlW (c : UInt8) (t : ByteArray) (z : StP) (own : Nat) : ∀ (n : Nat) (r : Rn), t.size - r.i ≤ n → r.i ≤ t.size → (rtL t own r).1 = true → rtL (wrp c t) (own + 1) (hR z r) = (true, hR z (rtL t own r).2) := by
  intro n
  induction n with
  | zero =>
    intro r hn hi hk
    have hb : byte t r.i ≠ 47 := by intro e; have := sg_in t 47 r.i (by decide) e; omega
    rw [rtL_stop t own r hb, rtL_stop (wrp c t) (own + 1) (hR z r) (fun e => hb ((wrp_eq (by decide) (by decide) c t r.i hi).1 e))]
  | succ n ih =>
    intro r hn hi hk
    by_cases hb : byte t r.i = 47
    · have hl := sg_in t 47 r.i (by decide) hb
      cases h2 : (rtP t own r.i).1 with
      | false => rw [rtL_bad t own r hb h2] at hk; cases hk
      | true =>
        have hbd := rtP_bd t own r.i hl h2
        have hw := rtW c t own r.i hb h2
        rw [rtL_go t own r hb h2] at hk ⊢
        have e1 : (hR z r).i = r.i + 2 := rfl
        rw [rtL_go (wrp c t) (own + 1) (hR z r) (by rw [e1]; exact (wrp_eq (by decide) (by decide) c t r.i hi).2 hb) (by rw [e1, hw])]
        have e2 : ({ hR z r with i := (rtP (wrp c t) (own + 1) (hR z r).i).2.1, tr := (hR z r).tr ++ [(rtP (wrp c t) (own + 1) (hR z r).i).2.2] } : Rn) = hR z { r with i := (rtP t own r.i).2.1, tr := r.tr ++ [(rtP t own r.i).2.2] } := by
          rw [e1, hw]
          unfold hR
          simp
        rw [e2]
        exact ih _ (by simp only; omega) hbd.2 hk
    · rw [rtL_stop t own r hb, rtL_stop (wrp c t) (own + 1) (hR z r) (fun e => hb ((wrp_eq (by decide) (by decide) c t r.i hi).1 e))]
end Go.Proofs.Ytmolmbeeoecnfaa

/- Own work: a chart's text within another one is read alike: states, the whole text. -/
namespace Go.Proofs.Ytmolmbeeoecnfaa
open Go.RowKit Go.BigFrame
set_option linter.unusedVariables false
set_option linter.unusedSimpArgs false

theorem hR_inv {c : UInt8} {t : ByteArray} {z : StP} {r : Rn} (h : RdInv t r) : RdInv (wrp c t) (hR z r) := by
  have h1 := wrp_sz c t
  have := h.1
  have := h.2.1
  have := h.2.2
  refine ⟨?_, ?_, ?_⟩
  · show r.i + 2 ≤ _; omega
  · show (z :: r.st.map hS).length ≤ r.i + 2; simp; omega
  · show (r.tr.map hQ).length ≤ r.i + 2; simp; omega
theorem riW (c : UInt8) (t : ByteArray) (z : StP) (g g' : Rn → Bool × Rn) (m m' : Nat) (hgo : ∀ q, RdInv t q → m ≤ q.i → (g q).1 = true → GoesR t q (g q).2)
    (hgo' : ∀ q, RdInv (wrp c t) q → m' ≤ q.i → (g' q).1 = true → GoesR (wrp c t) q (g' q).2)
    (hgg : ∀ q, RdInv t q → m ≤ q.i → (g q).1 = true → g' (hR z q) = (true, hR z (g q).2)) :
    ∀ (k n : Nat) (r : Rn), t.size - r.i ≤ k → RdInv t r → m ≤ r.i → m' ≤ r.i + 2 → (riL t g n r).1 = true → riL (wrp c t) g' n (hR z r) = (true, (riL t g n r).2.1, hR z (riL t g n r).2.2) := by
  intro k
  induction k with
  | zero =>
    intro n r hk hI hm hm' hok
    have hb : isN (byte t r.i) = false := by
      cases e : isN (byte t r.i) with
      | false => rfl
      | true => have := isN_b t r.i e; omega
    rw [riL_stop t g n r hb, riL_stop (wrp c t) g' n (hR z r) (by show isN (byte (wrp c t) (r.i + 2)) = false; rw [wrp_P (P := isN) (by decide) c t r.i hI.1]; exact hb)]
  | succ k ih =>
    intro n r hk hI hm hm' hok
    have hp : isN (byte (wrp c t) (hR z r).i) = isN (byte t r.i) := wrp_P (P := isN) (by decide) c t r.i hI.1
    cases hb : isN (byte t r.i) with
    | false => rw [riL_stop t g n r hb, riL_stop (wrp c t) g' n (hR z r) (by rw [hp]; exact hb)]
    | true =>
      cases h2 : (g r).1 with
      | false => rw [riL_bad t g n r hb h2] at hok; cases hok
      | true =>
        have hgr := hgo r hI hm h2
        have hgi := hgr.i
        have hw := hgg r hI hm h2
        rw [riL_go t g m n hgo r hI hm hb h2] at hok ⊢
        rw [riL_go (wrp c t) g' m' n hgo' (hR z r) (hR_inv hI) hm' (by rw [hp]; exact hb) (by rw [hw]), hw]
        exact ih (n + 1) _ (by omega) hgr.inv (by omega) (by omega) hok
theorem rpW (c : UInt8) (t : ByteArray) (z : StP) (g g' : Rn → Bool × Rn) (fin : UInt8) (hf0 : fin ≠ 0) (least : Nat) (r : Rn) (hI : RdInv t r) (hn : r.i < t.size)
    (hgo : ∀ q, RdInv t q → r.i + 1 ≤ q.i → (g q).1 = true → GoesR t q (g q).2) (hgo' : ∀ q, RdInv (wrp c t) q → r.i + 2 ≤ q.i → (g' q).1 = true → GoesR (wrp c t) q (g' q).2)
    (hgg : ∀ q, RdInv t q → r.i + 1 ≤ q.i → (g q).1 = true → g' (hR z q) = (true, hR z (g q).2))
    (hok : (riP t g fin least r).1 = true) : riP (wrp c t) g' fin least (hR z r) = (true, hR z (riP t g fin least r).2) := by
  have hI1 : RdInv t { r with i := r.i + 1 } := ⟨by simp only; omega, by have := hI.2.1; simp only; omega, by have := hI.2.2; simp only; omega⟩
  have hmain := riW c t z g g' (r.i + 1) (r.i + 2) hgo hgo' hgg _ 0 { r with i := r.i + 1 } (Nat.le_refl _) hI1 (Nat.le_refl _) (by simp only; omega)
  have e0 : ({ hR z r with i := (hR z r).i + 1 } : Rn) = hR z { r with i := r.i + 1 } := by
    unfold hR; simp only
  unfold riP at hok ⊢
  rw [e0]
  by_cases h1 : (riL t g 0 { r with i := r.i + 1 }).1 = false
  · rw [if_pos h1] at hok; cases hok
  · rw [if_neg h1] at hok ⊢
    by_cases h2 : (riL t g 0 { r with i := r.i + 1 }).2.1 < least ∨ byte t (riL t g 0 { r with i := r.i + 1 }).2.2.i ≠ fin
    · rw [if_pos h2] at hok; cases hok
    · rw [if_neg h2, hmain (by simpa using h1)]
      have h3 : byte t (riL t g 0 { r with i := r.i + 1 }).2.2.i = fin := by
        rcases Decidable.em (byte t (riL t g 0 { r with i := r.i + 1 }).2.2.i = fin) with e | e
        · exact e
        · exact absurd (Or.inr e) h2
      have hl2 := sg_in t fin _ hf0 h3
      have b3 : byte (wrp c t) (hR z (riL t g 0 { r with i := r.i + 1 }).2.2).i = fin := (wrp_in c t _ hl2).trans h3
      simp only
      rw [if_neg (by decide), if_neg (by
        rintro (e | e)
        · exact h2 (Or.inl e)
        · exact e b3)]
      unfold hR
      simp only
theorem hS_modify (l : List StP) (z : StP) (k : Nat) (g g' : StP → StP) (h : ∀ x, hS (g x) = g' (hS x)) : (z :: l.map hS).modify (k + 1) g' = z :: (l.modify k g).map hS := by
  rw [map_modify hS g g' h]
  rfl
theorem rsW (c : UInt8) (t : ByteArray) (z : StP) : ∀ (f f' : Nat) (r : Rn) (outer outer' : Int) (depth : Nat), outer' = outer + 1 → RdInv t r → t.size - r.i < f → (wrp c t).size - (r.i + 2) < f' → (rsF t f r outer depth).1 = true →
    rsF (wrp c t) f' (hR z r) outer' (depth + 1) = (true, hR z (rsF t f r outer depth).2)
  | 0, f', r, outer, outer', depth, ho, hI, hf, hf', hok => by omega
  | f + 1, 0, r, outer, outer', depth, ho, hI, hf, hf', hok => by omega
  | f + 1, f' + 1, r, outer, outer', depth, ho, hI, hf, hf', hok => by
    subst ho
    simp only [rsF] at hok ⊢
    have hsz := wrp_sz c t
    by_cases h1 : isN (byte t r.i) = false
    · rw [if_pos h1] at hok; cases hok
    · rw [if_neg h1] at hok ⊢
      have h1' : isN (byte t r.i) = true := by simpa using h1
      by_cases h2 : abK t 43 (r.i + 1) = false
      · rw [if_pos h2] at hok; cases hok
      · rw [if_neg h2] at hok ⊢
        by_cases h3 : abK t 45 (abI t 43 (r.i + 1)) = false
        · rw [if_pos h3] at hok; cases hok
        · rw [if_neg h3] at hok ⊢
          have hl := isN_b t r.i h1'
          have b0 := wrp_in c t r.i hl
          have e1 := abI_bd t 43 (r.i + 1) (by decide) hl
          have e2 := abI_bd t 45 (abI t 43 (r.i + 1)) (by decide) e1.2
          have w43 := abW c t 43 (by decide) (by decide) (r.i + 1) hl
          have w45 := abW c t 45 (by decide) (by decide) (abI t 43 (r.i + 1)) e1.2
          have ei : (hR z r).i = r.i + 2 := rfl
          have el : (hR z r).st.length = r.st.length + 1 := by show (z :: r.st.map hS).length = _; simp
          rw [ei, el, show r.i + 2 + 1 = r.i + 1 + 2 by omega, b0, w43.1, w43.2.1, w45.2.1, if_neg h1, if_neg h2, if_neg h3]
          have hq3 : rs3 (wrp c t) (r.st.length + 1) (rs1 (wrp c t) (hR z r) (outer + 1) (depth + 1)) = hR z (rs3 t r.st.length (rs1 t r outer depth)) := by
            unfold rs3 rs1 setAP
            simp only [ei]
            rw [show r.i + 2 + 1 = r.i + 1 + 2 by omega, b0, w43.1, w45.1, w43.2.2, w45.2.2]
            unfold hR
            simp only
            congr 1
            have e5 : (z :: r.st.map hS) ++ [(⟨byte t r.i, r.i + 2, depth + 1, 0, outer + 1, 0, ⟨#[]⟩, ⟨#[]⟩, false, false⟩ : StP)] = z :: (r.st ++ [(⟨byte t r.i, r.i, depth, 0, outer, 0, ⟨#[]⟩, ⟨#[]⟩, false, false⟩ : StP)]).map hS := by
              rw [List.map_append]; rfl
            rw [e5, hS_modify _ z _ (fun x => { x with enter := abS t 43 (r.i + 1) }) _ (fun x => rfl), hS_modify _ z _ (fun x => { x with leave := abS t 45 (abI t 43 (r.i + 1)) }) _ (fun x => rfl)]
          rw [hq3]
          have hi3 : (rs3 t r.st.length (rs1 t r outer depth)).i = abI t 45 (abI t 43 (r.i + 1)) := rfl
          have hI3 : RdInv t (rs3 t r.st.length (rs1 t r outer depth)) := by
            refine ⟨by rw [hi3]; exact e2.2, ?_, ?_⟩
            · rw [hi3]
              show (((r.st ++ [_]).modify _ _).modify _ _).length ≤ _
              simp only [List.length_modify, List.length_append, List.length_cons, List.length_nil]
              have := hI.2.1; omega
            · rw [hi3]; show r.tr.length ≤ _; have := hI.2.2; omega
          have hL3 : r.i + 1 ≤ (rs3 t r.st.length (rs1 t r outer depth)).i := by rw [hi3]; omega
          have hN3 : 0 < (rs3 t r.st.length (rs1 t r outer depth)).st.length := by
            show 0 < (((r.st ++ [_]).modify _ _).modify _ _).length
            simp only [List.length_modify, List.length_append, List.length_cons, List.length_nil]
            omega
          generalize rs3 t r.st.length (rs1 t r outer depth) = q3 at *
          have hIK : ∀ kk, RdInv t (setKP q3 r.st.length kk) := fun kk => ⟨hI3.1, by show (q3.st.modify _ _).length ≤ _; rw [List.length_modify]; exact hI3.2.1, hI3.2.2⟩
          have hKK : ∀ kk, setKP (hR z q3) (r.st.length + 1) kk = hR z (setKP q3 r.st.length kk) := fun kk => by
            unfold setKP hR
            simp only
            rw [hS_modify _ z _ (fun x => { x with kind := kk }) _ (fun x => rfl)]
          have hgo : ∀ q, RdInv t q → q3.i + 1 ≤ q.i → (rsF t f q (r.st.length : Nat) (depth + 1)).1 = true → GoesR t q (rsF t f q (r.st.length : Nat) (depth + 1)).2 := fun q hq hqi hqk => rsF_goes t f q _ _ hq (by omega) hqk
          have hgo' : ∀ q, RdInv (wrp c t) q → q3.i + 2 ≤ q.i → (rsF (wrp c t) f' q ((r.st.length + 1 : Nat) : Int) (depth + 1 + 1)).1 = true → GoesR (wrp c t) q (rsF (wrp c t) f' q ((r.st.length + 1 : Nat) : Int) (depth + 1 + 1)).2 := fun q hq hqi hqk => rsF_goes (wrp c t) f' q _ _ hq (by omega) hqk
          have hgg : ∀ q, RdInv t q → q3.i + 1 ≤ q.i → (rsF t f q (r.st.length : Nat) (depth + 1)).1 = true → rsF (wrp c t) f' (hR z q) ((r.st.length + 1 : Nat) : Int) (depth + 1 + 1) = (true, hR z (rsF t f q (r.st.length : Nat) (depth + 1)).2) :=
            fun q a2 a4 a6 => rsW c t z f f' q _ _ _ (by omega) a2 (by omega) (by omega) a6
          have hbq : ∀ x, x ≠ 41 → x ≠ 0 → (byte (wrp c t) (hR z q3).i = x ↔ byte t q3.i = x) := fun x x1 x2 => wrp_eq x1 x2 c t q3.i hI3.1
          have h4 : (rs4 t (fun q => rsF t f q (r.st.length : Nat) (depth + 1)) r.st.length q3).1 = true → rs4 (wrp c t) (fun q => rsF (wrp c t) f' q ((r.st.length + 1 : Nat) : Int) (depth + 1 + 1)) (r.st.length + 1) (hR z q3) = (true, hR z (rs4 t (fun q => rsF t f q (r.st.length : Nat) (depth + 1)) r.st.length q3).2) ∧ RdInv t (rs4 t (fun q => rsF t f q (r.st.length : Nat) (depth + 1)) r.st.length q3).2 ∧ 0 < (rs4 t (fun q => rsF t f q (r.st.length : Nat) (depth + 1)) r.st.length q3).2.st.length := by
            intro hk4
            have hok4 := rs4_ok t (fun q => rsF t f q (r.st.length : Nat) (depth + 1)) r.st.length q3 hI3 hgo hk4
            refine ⟨?_, hok4.1, by omega⟩
            unfold rs4 at hk4 ⊢
            by_cases hb40 : byte t q3.i = 40
            · rw [if_pos hb40] at hk4 ⊢
              rw [if_pos ((hbq 40 (by decide) (by decide)).2 hb40), hKK]
              exact rpW c t z _ _ 41 (by decide) 1 (setKP q3 r.st.length 1) (hIK 1) (sg_in t 40 q3.i (by decide) hb40) hgo hgo' hgg hk4
            · rw [if_neg hb40] at hk4 ⊢
              rw [if_neg (fun e => hb40 ((hbq 40 (by decide) (by decide)).1 e))]
              by_cases hb91 : byte t q3.i = 91
              · rw [if_pos hb91] at hk4 ⊢
                rw [if_pos ((hbq 91 (by decide) (by decide)).2 hb91), hKK]
                exact rpW c t z _ _ 93 (by decide) 2 (setKP q3 r.st.length 2) (hIK 2) (sg_in t 91 q3.i (by decide) hb91) hgo hgo' hgg hk4
              · rw [if_neg hb91]
                rw [if_neg (fun e => hb91 ((hbq 91 (by decide) (by decide)).1 e))]
          generalize rs4 t (fun q => rsF t f q (r.st.length : Nat) (depth + 1)) r.st.length q3 = q4 at *
          generalize rs4 (wrp c t) (fun q => rsF (wrp c t) f' q ((r.st.length + 1 : Nat) : Int) (depth + 1 + 1)) (r.st.length + 1) (hR z q3) = q4' at *
          unfold rs5 at hok ⊢
          by_cases h5 : q4.1 = false
          · rw [if_pos h5, h5] at hok; cases hok
          · rw [if_neg h5] at hok ⊢
            obtain ⟨z1, z2, z3⟩ := h4 (by simpa using h5)
            rw [z1]
            simp only
            rw [if_neg (by decide)]
            have e7 : setEP (hR z q4.2) (r.st.length + 1) (hR z q4.2).st.length = hR z (setEP q4.2 r.st.length q4.2.st.length) := by
              have e8 : (hR z q4.2).st.length = q4.2.st.length + 1 := by show (z :: q4.2.st.map hS).length = _; simp
              rw [e8]
              unfold setEP hR
              simp only
              rw [hS_modify _ z _ (fun x => { x with end_ := q4.2.st.length }) _ (fun x => by
                have : q4.2.st.length ≠ 0 := by omega
                unfold hS; simp only; rw [if_neg this])]
            rw [e7]
            exact rlW c t z r.st.length _ _ (Nat.le_refl _) z2.1 hok
theorem rsF_succ (s : ByteArray) (f : Nat) (r : Rn) (outer : Int) (depth : Nat) : rsF s (f + 1) r outer depth = if isN (byte s r.i) = false then (false, r)
    else if abK s 43 (r.i + 1) = false then (false, { rs1 s r outer depth with i := abI s 43 (r.i + 1) })
    else if abK s 45 (abI s 43 (r.i + 1)) = false then (false, { rs1 s r outer depth with i := abI s 45 (abI s 43 (r.i + 1)) })
    else rs5 s r.st.length (rs4 s (fun q => rsF s f q (r.st.length : Nat) (depth + 1)) r.st.length (rs3 s r.st.length (rs1 s r outer depth))) := rfl
/-- The new outermost state, as it was read. -/
def hZ (c : UInt8) (n : Nat) : StP := ⟨c, 0, 1, 1, -1, n, ⟨#[]⟩, ⟨#[]⟩, false, false⟩
theorem rdW (c : UInt8) (t : ByteArray) (hc : isN c = true) (h : rcK t = true) : rcK (wrp c t) = true ∧ (rcR (wrp c t)).2.st = hZ c ((rcR t).2.st.length + 1) :: (rcR t).2.st.map hS ∧ (rcR (wrp c t)).2.tr = (rcR t).2.tr.map hQ := by
  rw [rcK, Bool.and_eq_true, beq_iff_eq] at h
  have hsz := wrp_sz c t
  have hI0 : RdInv t R0 := ⟨Nat.zero_le _, Nat.le_refl _, Nat.le_refl _⟩
  have hin := rsW c t (hZ c 0) (t.size + 1) (wrp c t).size R0 (-1) 0 1 rfl hI0 (by show t.size - 0 < _; omega) (by show (wrp c t).size - (0 + 2) < _; omega) h.1
  have hgo := rsF_goes t (t.size + 1) R0 (-1) 1 hI0 (by show t.size - 0 < _; omega) h.1
  have h0t : isN (byte t 0) = true := by
    have h1 := h.1
    unfold rcR rsF at h1
    by_cases e : isN (byte t R0.i) = false
    · rw [if_pos e] at h1; cases h1
    · have e2 : isN (byte t R0.i) = true := by simpa using e
      exact e2
  have ht0 := isN_b t 0 h0t
  have hrc : rsF t (t.size + 1) R0 (-1) 1 = rcR t := rfl
  rw [hrc] at hin hgo
  have key : rcR (wrp c t) = (true, ⟨t.size + 3, hZ c ((rcR t).2.st.length + 1) :: (rcR t).2.st.map hS, (rcR t).2.tr.map hQ⟩) := by
    unfold rcR
    rw [hsz]
    show rsF (wrp c t) (t.size + 3 + 1) R0 (-1) 1 = _
    rw [hsz] at hin
    rw [rsF_succ]
    have b0 : byte (wrp c t) R0.i = c := wrp_0 c t
    have b1 := wrp_1 c t
    have a43 := ab_id (s := wrp c t) (sg := 43) (i := R0.i + 1) (by show byte (wrp c t) 1 ≠ 43; rw [b1]; decide)
    have a45 := ab_id (s := wrp c t) (sg := 45) (i := R0.i + 1) (by show byte (wrp c t) 1 ≠ 45; rw [b1]; decide)
    rw [if_neg (by rw [b0, hc]; decide), if_neg (by rw [a43.2]; decide), if_neg (by rw [a43.1, a45.2]; decide)]
    have e3 : rs3 (wrp c t) R0.st.length (rs1 (wrp c t) R0 (-1) 1) = ⟨1, [⟨c, 0, 1, 0, -1, 0, ⟨#[]⟩, ⟨#[]⟩, false, false⟩], []⟩ := by
      unfold rs3 rs1 setAP
      have e1 : abS (wrp c t) 43 1 = ⟨#[]⟩ := by unfold abS; rw [if_neg (by rw [b1]; decide)]
      have e2 : abS (wrp c t) 45 1 = ⟨#[]⟩ := by unfold abS; rw [if_neg (by rw [b1]; decide)]
      have e3 : abI (wrp c t) 43 1 = 1 := a43.1
      have e4 : abI (wrp c t) 45 1 = 1 := a45.1
      simp only [R0, Nat.zero_add]
      rw [e3, e4, e1, e2]
      have b0' : byte (wrp c t) 0 = c := wrp_0 c t
      rw [b0']
      rfl
    rw [e3]
    have e4 : rs4 (wrp c t) (fun q => rsF (wrp c t) (t.size + 3) q ((R0.st.length : Nat) : Int) (1 + 1)) R0.st.length ⟨1, [⟨c, 0, 1, 0, -1, 0, ⟨#[]⟩, ⟨#[]⟩, false, false⟩], []⟩ = (true, ⟨t.size + 3, hZ c 0 :: (rcR t).2.st.map hS, (rcR t).2.tr.map hQ⟩) := by
      unfold rs4
      simp only
      rw [if_pos b1]
      have ek : setKP ⟨1, [⟨c, 0, 1, 0, -1, 0, ⟨#[]⟩, ⟨#[]⟩, false, false⟩], []⟩ R0.st.length 1 = ⟨1, [hZ c 0], []⟩ := rfl
      rw [ek]
      unfold riP
      have el : riL (wrp c t) (fun q => rsF (wrp c t) (t.size + 3) q ((R0.st.length : Nat) : Int) (1 + 1)) 0 { (⟨1, [hZ c 0], []⟩ : Rn) with i := (⟨1, [hZ c 0], []⟩ : Rn).i + 1 } = (true, 1, hR (hZ c 0) (rcR t).2) := by
        have er : ({ (⟨1, [hZ c 0], []⟩ : Rn) with i := (⟨1, [hZ c 0], []⟩ : Rn).i + 1 } : Rn) = hR (hZ c 0) R0 := rfl
        rw [er, riL_go (wrp c t) _ 2 0 (fun q hq hqi hqk => rsF_goes (wrp c t) (t.size + 3) q _ _ hq (by omega) hqk) (hR (hZ c 0) R0) (hR_inv hI0) (Nat.le_refl _) (by show isN (byte (wrp c t) (0 + 2)) = true; rw [wrp_in c t 0 ht0]; exact h0t) (by show (rsF (wrp c t) (t.size + 3) (hR (hZ c 0) R0) 0 2).1 = true; rw [hin])]
        show riL (wrp c t) _ 1 (rsF (wrp c t) (t.size + 3) (hR (hZ c 0) R0) 0 2).2 = _
        rw [hin, riL_stop]
        show isN (byte (wrp c t) ((rcR t).2.i + 2)) = false
        rw [h.2, wrp_end]; decide
      rw [el]
      simp only
      have e41 : byte (wrp c t) (hR (hZ c 0) (rcR t).2).i = 41 := by show byte (wrp c t) ((rcR t).2.i + 2) = 41; rw [h.2, wrp_end]
      rw [if_neg (by decide), if_neg (by rw [e41]; decide)]
      unfold hR
      simp only
      rw [h.2]
    rw [e4]
    unfold rs5
    simp only
    rw [if_neg (by decide), rtL_stop]
    · show (true, (⟨t.size + 3, (hZ c 0 :: (rcR t).2.st.map hS).modify 0 _, _⟩ : Rn)) = _
      have el : (hZ c 0 :: (rcR t).2.st.map hS).length = (rcR t).2.st.length + 1 := by simp
      rw [el]
      rfl
    · show byte (wrp c t) (t.size + 3) ≠ 47
      rw [byte_out _ _ (by omega)]; decide
  refine ⟨?_, by rw [key], by rw [key]⟩
  rw [rcK, key, hsz]
  simp
end Go.Proofs.Ytmolmbeeoecnfaa

/- Own work: a chart within another one: the errors, the plan. -/
namespace Go.Proofs.Ytmolmbeeoecnfaa
open Go.RowKit Go.BigFrame
set_option linter.unusedVariables false
set_option linter.unusedSimpArgs false

theorem firstB_up {P P' : Nat → Bool} (h0 : P' 0 = false) : ∀ m, (∀ k, k < m → P' (k + 1) = P k) → firstB P' (m + 1) = (firstB P m).map (· + 1)
  | m, h => by
    rcases firstB_spec P m with ⟨h1, h2⟩ | ⟨k, h1, h2, h3, h4⟩
    · rw [h1, firstB_none P' (m + 1) (fun j hj => by
        cases j with
        | zero => exact h0
        | succ j => rw [h j (by omega)]; exact h2 j (by omega))]
      rfl
    · rw [h1, firstB_some P' (k + 1) (by rw [h k h2]; exact h3) (fun j hj => by
        cases j with
        | zero => exact h0
        | succ j => rw [h j (by omega)]; exact h4 j (by omega)) (m + 1) (by omega)]
      rfl
theorem up_get (z : StP) (st : List StP) (k : Nat) : (z :: st.map hS)[k + 1]? = (st[k]?).map hS := by rw [List.getElem?_cons_succ, List.getElem?_map]
theorem up_len (z : StP) (st : List StP) : (z :: st.map hS).length = st.length + 1 := by simp
theorem idxP_up (z : StP) (st : List StP) (d : UInt8) (h : z.name ≠ d) : idxP (z :: st.map hS) d = if idxP st d < 0 then -1 else idxP st d + 1 := by
  have h1 : isNmP (z :: st.map hS) d 0 = false := by unfold isNmP; simp [h]
  have h2 : ∀ k, isNmP (z :: st.map hS) d (k + 1) = isNmP st d k := fun k => by
    unfold isNmP; rw [up_get]; cases st[k]? <;> rfl
  have h3 := firstB_up (P := isNmP st d) h1 st.length (fun k _ => h2 k)
  unfold idxP
  rw [up_len, h3]
  cases firstB (isNmP st d) st.length with
  | none => rfl
  | some k => simp only [Option.map_some]; rw [if_neg (by omega)]; omega
theorem idxP_top (z : StP) (st : List StP) : idxP (z :: st.map hS) z.name = 0 := by
  unfold idxP
  rw [up_len, firstB_some (isNmP (z :: st.map hS) z.name) 0 (by unfold isNmP; simp) (fun j hj => by omega) (st.length + 1) (by omega)]
  rfl
theorem idxP_is {st : List StP} {d : UInt8} (h : ¬ idxP st d < 0) : ∃ x ∈ st, x.name = d := by
  unfold idxP at h
  rcases firstB_spec (isNmP st d) st.length with ⟨h1, -⟩ | ⟨k, h1, h2, h3, -⟩
  · rw [h1] at h; exact absurd (by decide) h
  · unfold isNmP at h3
    split at h3
    · rename_i x hx
      exact ⟨x, List.mem_of_getElem? hx, by simpa using h3⟩
    · cases h3
def hC2 (c : CdP) : CdP := { c with place := c.place + 2, state := c.state + 1 }
def hQ2 (t : TrQ) : TrQ := { t with own := t.own + 1, conds := t.conds.map hC2, tp := t.tp + 2, mp := t.mp + 2, ts := t.ts + 1 }
section
variable {z : StP} {st : List StP} (hz : ∀ x ∈ st, x.name ≠ z.name)
include hz
theorem idxP_w {d : UInt8} (h : ¬ idxP st d < 0) : idxP (z :: st.map hS) d = idxP st d + 1 := by
  obtain ⟨x, hx, he⟩ := idxP_is h
  rw [idxP_up z st d (by rw [← he]; exact fun e => hz x hx e.symm), if_neg h]
theorem resQ_w {q : TrQ} (h : NmOk st q) : resQ (z :: st.map hS) (hQ q) = hQ2 (resQ st q) := by
  have e1 : (q.conds.map hC).map (resC (z :: st.map hS)) = (q.conds.map (resC st)).map hC2 := by
    rw [List.map_map, List.map_map]
    apply List.map_congr_left
    intro cd hcd
    show ({ hC cd with state := idxP (z :: st.map hS) cd.name } : CdP) = hC2 { cd with state := idxP st cd.name }
    rw [idxP_w hz (h.1 cd hcd)]
    rfl
  unfold resQ hQ hQ2
  simp only
  rw [e1, idxP_w hz h.2]
end
theorem mark_w (z : StP) (l : List StP) (q : TrQ) (h : 0 ≤ q.ts) : mark1 (z :: l.map hS) (hQ2 q) = z :: (mark1 l q).map hS := by
  have e : (q.ts + 1).toNat = q.ts.toNat + 1 := by omega
  unfold mark1
  show (if q.mark = 0 then _ else if q.mark = 42 then ((z :: l.map hS).modify (q.ts + 1).toNat setRem).modify (q.ts + 1).toNat setWh else (z :: l.map hS).modify (q.ts + 1).toNat setRem) = _
  rw [e]
  split
  · rfl
  · split
    · rw [hS_modify l z _ setRem setRem (fun x => rfl), hS_modify _ z _ setWh setWh (fun x => rfl)]
    · rw [hS_modify l z _ setRem setRem (fun x => rfl)]
theorem markF_w (z : StP) : ∀ (tr : List TrQ) (l : List StP), (∀ q ∈ tr, 0 ≤ q.ts) → (tr.map hQ2).foldl mark1 (z :: l.map hS) = z :: (tr.foldl mark1 l).map hS
  | [], l, _ => rfl
  | q :: tr, l, h => by
    rw [List.map_cons, List.foldl_cons, List.foldl_cons, mark_w z l q (h q (by simp))]
    exact markF_w z tr _ (fun x hx => h x (by simp [hx]))
/-- The chart t within a new outermost state c. -/
theorem un_w {c : UInt8} {t : ByteArray} (hc : isN c = true) (h : (unE t).1 = 0) (hz : ∀ x ∈ (rcR t).2.st, x.name ≠ c) (hd : ∀ x ∈ (rcR t).2.st, x.depth < 6) (hsz : t.size ≤ 157) :
    unE (wrp c t) = (0, 0) ∧ unSt (wrp c t) = hZ c ((unSt t).length + 1) :: (unSt t).map hS ∧ unTr (wrp c t) = (unTr t).map hQ2 := by
  obtain ⟨a1, a2, a3, a4, a5⟩ := unE_ok h
  obtain ⟨b1, b2, b3⟩ := rdW c t hc a2
  have hsm := un_sm h
  rw [rsv_iff] at a4
  rw [mrk_iff] at a5
  have hlen := hsm.1
  have hmr := a5
  have huT : unTr (wrp c t) = (unTr t).map hQ2 := by
    unfold unTr
    rw [b2, b3, List.map_map, List.map_map]
    apply List.map_congr_left
    intro q hq
    exact resQ_w hz (a4 q hq)
  have hts : ∀ q ∈ unTr t, 0 ≤ q.ts := by
    intro q hq
    obtain ⟨q0, hq0, rfl⟩ := List.mem_map.1 hq
    have := (a4 q0 hq0).2
    show 0 ≤ idxP (rcR t).2.st q0.tn
    omega
  have huS : unSt (wrp c t) = hZ c ((unSt t).length + 1) :: (unSt t).map hS := by
    have e1 : unSt (wrp c t) = (unTr (wrp c t)).foldl mark1 (rcR (wrp c t)).2.st := rfl
    have e2 : unSt t = (unTr t).foldl mark1 (rcR t).2.st := rfl
    rw [e1, huT, b2, markF_w _ _ _ hts, ← e2, hlen]
  refine ⟨unE_mk (by rw [wrp_sz]; omega) b1 ?_ ?_ ?_ ?_, huS, huT⟩
  · rw [b2]
    have h1 := (ftd_none (st := hZ c ((rcR t).2.st.length + 1) :: (rcR t).2.st.map hS)).1 (firstB_none _ _ (fun j hj => by
      unfold dpP
      cases j with
      | zero => rfl
      | succ j =>
        rw [up_get]
        cases hx : (rcR t).2.st[j]? with
        | none => rfl
        | some x =>
          have := hd x (List.mem_of_getElem? hx)
          show decide (6 < x.depth + 1) = false
          simp; omega))
    exact Decidable.not_not.1 h1
  · rw [b2]
    have h1 := (ftw_none (st := hZ c ((rcR t).2.st.length + 1) :: (rcR t).2.st.map hS)).1 (firstB_none _ _ (fun j hj => by
      unfold twP
      cases j with
      | zero =>
        show decide (idxP (hZ c ((rcR t).2.st.length + 1) :: (rcR t).2.st.map hS) (hZ c ((rcR t).2.st.length + 1)).name < ((0 : Nat) : Int)) = false
        rw [idxP_top]; rfl
      | succ j =>
        rw [up_get]
        cases hx : (rcR t).2.st[j]? with
        | none => rfl
        | some x =>
          have h2 := ftw_all a3 hx
          show decide (idxP (hZ c ((rcR t).2.st.length + 1) :: (rcR t).2.st.map hS) x.name < ((j + 1 : Nat) : Int)) = false
          rw [idxP_w (z := hZ c ((rcR t).2.st.length + 1)) hz (by omega)]
          simp; omega))
    exact Decidable.not_not.1 h1
  · rw [rsv_iff, b2, b3]
    intro q hq
    obtain ⟨q0, hq0, rfl⟩ := List.mem_map.1 hq
    have hn := a4 q0 hq0
    refine ⟨fun cd hcd => ?_, ?_⟩
    · obtain ⟨cd0, hcd0, rfl⟩ := List.mem_map.1 hcd
      have := hn.1 cd0 hcd0
      show ¬ idxP _ cd0.name < 0
      rw [idxP_w (z := hZ c ((rcR t).2.st.length + 1)) hz this]; omega
    · have := hn.2
      show ¬ idxP _ q0.tn < 0
      rw [idxP_w (z := hZ c ((rcR t).2.st.length + 1)) hz this]; omega
  · have e1 : (rcR (wrp c t)).2.tr.map (resQ (rcR (wrp c t)).2.st) = (unTr t).map hQ2 := huT
    rw [e1, mrk_iff, b2]
    intro q hq
    obtain ⟨q0, hq0, rfl⟩ := List.mem_map.1 hq
    have h1 := a5 q0 hq0
    have h2 := hts q0 hq0
    unfold badM at h1 ⊢
    have e2 : kdP (hZ c ((rcR t).2.st.length + 1) :: (rcR t).2.st.map hS) (hQ2 q0).ts = kdP (rcR t).2.st q0.ts := by
      unfold kdP
      show (match (hZ c ((rcR t).2.st.length + 1) :: (rcR t).2.st.map hS)[(q0.ts + 1).toNat]? with | some x => x.kind | none => 0) = _
      rw [show (q0.ts + 1).toNat = q0.ts.toNat + 1 by omega, up_get]
      cases (rcR t).2.st[q0.ts.toNat]? <;> rfl
    rw [e2]
    exact h1
end Go.Proofs.Ytmolmbeeoecnfaa

/- Own work: a chart within another one goes through the same statuses: sets, scopes, entering. -/
namespace Go.Proofs.Ytmolmbeeoecnfaa
open Go.RowKit Go.BigFrame
set_option linter.unusedVariables false
set_option linter.unusedSimpArgs false

theorem mem_far {l : List Bool} (hl : l.length = 26) {i : Nat} (h : 26 ≤ i) : mem l i = false := by
  unfold mem; rw [List.getElem?_eq_none (by omega)]
/-- The set l, one place further on; b: of the new outermost state. -/
structure Up (b : Bool) (l' l : List Bool) : Prop where
  l1 : l'.length = 26
  l2 : l.length = 26
  m0 : mem l' 0 = b
  sh : ∀ k, mem l' (k + 1) = mem l k
theorem Up.of {b : Bool} {l' l : List Bool} (h1 : l'.length = 26) (h2 : l.length = 26) (h0 : mem l' 0 = b) (h25 : mem l 25 = false) (hk : ∀ k, k < 25 → mem l' (k + 1) = mem l k) : Up b l' l :=
  ⟨h1, h2, h0, fun k => by
    by_cases e : k < 25
    · exact hk k e
    · rw [mem_far h1 (by omega)]
      by_cases e2 : k = 25
      · subst e2; exact h25.symm
      · rw [mem_far h2 (by omega)]⟩
theorem Up.last {b : Bool} {l' l : List Bool} (h : Up b l' l) : mem l 25 = false := by rw [← h.sh 25, mem_far h.l1 (by omega)]
theorem noSet_len : noSet.length = 26 := by simp [noSet]
theorem Up.no : Up false noSet noSet := ⟨noSet_len, noSet_len, mem_no 0, fun k => by rw [mem_no, mem_no]⟩
theorem Up.set {b : Bool} {l' l : List Bool} (h : Up b l' l) {k : Nat} (hk : k < 25) (v : Bool) : Up b (l'.set (k + 1) v) (l.set k v) := by
  refine ⟨by rw [List.length_set]; exact h.l1, by rw [List.length_set]; exact h.l2, by rw [mem_set_ne (by omega)]; exact h.m0, fun j => ?_⟩
  by_cases e : k = j
  · subst e; rw [mem_set_self (by rw [h.l1]; omega), mem_set_self (by rw [h.l2]; omega)]
  · rw [mem_set_ne (by omega), mem_set_ne e]; exact h.sh j
theorem Up.bel {b : Bool} {l' l : List Bool} (h : Up b l' l) (o e : Nat) : Up false (belK l' (o + 1) (e + 1)) (belK l o e) := by
  refine Up.of (belK_len _ _ _) (belK_len _ _ _) (mem_belK _ _ _) ?_ ?_
  · rw [mem_bel _ _ _ _ (by omega), h.last]; simp
  · intro k hk
    rw [mem_bel _ _ _ _ (by omega), mem_bel _ _ _ _ (by omega), h.sh k]
    congr 2
    · simp
    · simp
theorem mts_iff (l m : List Bool) : mts l m = true ↔ ∃ i, i < 26 ∧ mem l i = true ∧ mem m i = true := by
  unfold mts
  rcases firstB_spec (fun k => mem l k && mem m k) 26 with ⟨h1, h2⟩ | ⟨k, h1, h2, h3, -⟩
  · rw [h1]
    constructor
    · intro h; cases h
    · rintro ⟨i, i1, i2, i3⟩
      have := h2 i i1
      rw [i2, i3] at this; cases this
  · rw [h1]
    simp only [Bool.and_eq_true] at h3
    exact ⟨fun _ => ⟨k, h2, h3⟩, fun _ => rfl⟩
theorem Up.meets {b : Bool} {l' l m' m : List Bool} (h : Up false l' l) (g : Up b m' m) : mts l' m' = mts l m := by
  rw [Bool.eq_iff_iff, mts_iff, mts_iff]
  constructor
  · rintro ⟨i, i1, i2, i3⟩
    cases i with
    | zero => rw [h.m0] at i2; cases i2
    | succ i => exact ⟨i, by omega, by rw [← h.sh]; exact i2, by rw [← g.sh]; exact i3⟩
  · rintro ⟨i, i1, i2, i3⟩
    have hi : i < 25 := by
      by_cases e : i = 25
      · subst e; rw [h.last] at i2; cases i2
      · omega
    exact ⟨i + 1, by omega, by rw [h.sh]; exact i2, by rw [g.sh]; exact i3⟩
theorem Up.un {l' l m' m : List Bool} (h : Up false l' l) (g : Up false m' m) : Up false (unK l' m' 26) (unK l m 26) := by
  refine Up.of (unK_len _ _ _) (unK_len _ _ _) ?_ ?_ ?_
  · rw [mem_unK _ _ _ _ (by omega), if_pos (by omega), h.m0, g.m0]; rfl
  · rw [mem_unK _ _ _ _ (by omega), if_pos (by omega), h.last, g.last]; rfl
  · intro k hk
    rw [mem_unK _ _ _ _ (by omega), if_pos (by omega), mem_unK _ _ _ _ (by omega), if_pos (by omega), h.sh, g.sh]
theorem emp_iff (l : List Bool) : emp l = true ↔ ∀ i, i < 26 → mem l i = false := by
  unfold emp
  rw [List.all_eq_true]
  constructor
  · intro h i hi; simpa using h i (List.mem_range.2 hi)
  · intro h i hi; simpa using h i (List.mem_range.1 hi)
theorem Up.empty {l' l : List Bool} (h : Up false l' l) : emp l' = emp l := by
  rw [Bool.eq_iff_iff, emp_iff, emp_iff]
  constructor
  · intro g i hi
    rw [← h.sh i]
    by_cases e : i + 1 < 26
    · exact g (i + 1) e
    · exact mem_far h.l1 (by omega)
  · intro g i hi
    cases i with
    | zero => exact h.m0
    | succ i => rw [h.sh]; exact g i (by omega)

/-- The plan's states, one place further on. -/
structure Wp (st st' : List StP) : Prop where
  tr : Tr st
  n25 : st.length ≤ 25
  rm : RmOk st
  len : st'.length = st.length + 1
  e0 : endAt st' 0 = st.length + 1
  o0 : outAt st' 0 = -1
  k0 : kindAt st' 0 = 1
  en : ∀ k, k < st.length → endAt st' (k + 1) = endAt st k + 1
  ou : ∀ k, k < st.length → outAt st' (k + 1) = outAt st k + 1
  kd : ∀ k, kindAt st' (k + 1) = kindAt st k
  gt : ∀ k x, st[k]? = some x → ∃ x', st'[k + 1]? = some x' ∧ x'.kind = x.kind ∧ x'.end_ = x.end_ + 1 ∧ x'.enter = x.enter ∧ x'.leave = x.leave ∧ x'.rem = x.rem ∧ x'.wh = x.wh ∧ x'.name = x.name
  g0 : ∃ x, st'[0]? = some x ∧ x.kind = 1 ∧ bls x.enter = [] ∧ x.rem = false
section
variable {st st' : List StP} (h : Wp st st')
include h
theorem isB_up (a : Nat) {o : Nat} (ho : o < st.length) : isB st' (a + 1) (o + 1) = isB st a o := by
  unfold isB; rw [h.en o ho]
  congr 1
  · simp
  · simp
theorem inAm_up {b : Bool} {l' l : List Bool} (hl : Up b l' l) {s : Nat} (hs : s < st.length) : inAm st' (s + 1) l' = inAm st s l + 1 := by
  have he := h.tr.end_gt hs
  have h1 := firstB_up (P := inA st s l) (P' := inA st' (s + 1) l') (by unfold inA; simp) (endAt st s) (fun k hk => by
    unfold inA
    rw [h.ou k (by omega), hl.sh]
    congr 1
    · simp
    · congr 1
      rw [Bool.eq_iff_iff, beq_iff_eq, beq_iff_eq]; omega)
  unfold inAm
  rw [h.en s hs, h1]
  cases firstB (inA st s l) (endAt st s) <;> rfl
theorem inTo_up {s : Nat} (hs : s < st.length) (t : Nat) : inTo st' (s + 1) (t + 1) = inTo st s t + 1 := by
  have he := h.tr.end_gt hs
  have h1 := firstB_up (P := inT st s t) (P' := inT st' (s + 1) (t + 1)) (by unfold inT; simp) (endAt st s) (fun k hk => by
    unfold inT
    rw [h.ou k (by omega), isB_up h t (by omega)]
    congr 1
    · simp
    · congr 1
      · rw [Bool.eq_iff_iff, beq_iff_eq, beq_iff_eq]; omega
      · congr 1
        rw [Bool.eq_iff_iff, beq_iff_eq, beq_iff_eq]; omega)
  unfold inTo
  rw [h.en s hs, h1]
  cases firstB (inT st s t) (endAt st s) <;> rfl
/-- Where there is a scope it is the same. -/
theorem scF_up (ts : Nat) : ∀ (f f' : Nat) (s : Nat), f ≤ f' → s < st.length → ∀ d : Nat, scF st ts f (s : Int) = (d : Int) → scF st' (ts + 1) f' ((s + 1 : Nat) : Int) = ((d + 1 : Nat) : Int)
  | 0, f', s, _, _, d, hd => by unfold scF at hd; omega
  | f + 1, 0, s, hf, _, d, hd => by omega
  | f + 1, f' + 1, s, hf, hs, d, hd => by
    unfold scF at hd ⊢
    rw [if_neg (by omega)] at hd ⊢
    rw [Int.toNat_natCast] at hd ⊢
    rw [h.kd, isB_up h ts hs]
    by_cases hc : (kindAt st s == 1 && isB st ts s) = true
    · rw [if_pos hc] at hd ⊢; omega
    · rw [if_neg hc] at hd ⊢
      rw [h.ou s hs]
      have ho := h.tr.out_lt hs
      by_cases e : outAt st s = -1
      · rw [e] at hd
        exfalso
        cases f with
        | zero => unfold scF at hd; omega
        | succ f => unfold scF at hd; rw [if_pos rfl] at hd; omega
      · obtain ⟨j, hj⟩ : ∃ j : Nat, outAt st s = (j : Int) := ⟨(outAt st s).toNat, by omega⟩
        rw [hj] at hd ⊢
        exact scF_up ts f f' j (by omega) (by omega) d hd
omit h in
theorem scF_is {st : List StP} (ht : Tr st) (hk0 : kindAt st 0 = 1) (ts : Nat) (h1 : 0 < ts) (h2 : ts < st.length) : ∀ (f : Nat) (s : Nat), s < f → s < st.length → ∃ d : Nat, scF st ts f (s : Int) = (d : Int) ∧ d < st.length
  | 0, s, hf, _ => by omega
  | f + 1, s, hf, hs => by
    unfold scF
    rw [if_neg (by omega), Int.toNat_natCast]
    by_cases hc : (kindAt st s == 1 && isB st ts s) = true
    · rw [if_pos hc]; exact ⟨s, rfl, hs⟩
    · rw [if_neg hc]
      have hs0 : s ≠ 0 := by
        intro e
        subst e
        apply hc
        rw [hk0]
        unfold isB
        rw [ht.te.e0]
        simp [h1, h2]
      have hb := ht.below (k := s) (o := 0) hs (by omega) (by rw [ht.te.e0]; exact hs)
      have ho := ht.out_lt hs
      obtain ⟨j, hj⟩ : ∃ j : Nat, outAt st s = (j : Int) := ⟨(outAt st s).toNat, by omega⟩
      rw [hj]
      exact scF_is ht hk0 ts h1 h2 f j (by omega) (by omega)
end
/-- A transition that stays below the outermost state. -/
structure QOk (st : List StP) (q : TrQ) : Prop where
  ok : TrOk st q
  o1 : 0 < q.own
  t1 : 0 < q.ts
  cs : CdOn q.conds
section
variable {st st' : List StP} (h : Wp st st') (hk0 : kindAt st 0 = 1)
include h hk0
theorem sc_up {q : TrQ} (hq : QOk st q) : ∃ d : Nat, scOf st q = (d : Int) ∧ d < st.length ∧ scOf st' (hQ2 q) = ((d + 1 : Nat) : Int) := by
  have o1 := hq.ok.1
  have o2 := hq.ok.2
  have ht1 := hq.t1
  have h1 := hq.o1
  have hb := h.tr.below (k := q.own) (o := 0) o1 h1 (by rw [h.tr.te.e0]; exact o1)
  have ho := h.tr.out_lt o1
  obtain ⟨j, hj⟩ : ∃ j : Nat, outAt st q.own = (j : Int) := ⟨(outAt st q.own).toNat, by omega⟩
  obtain ⟨d, hd, hdl⟩ := scF_is h.tr hk0 q.ts.toNat (by omega) (by omega) (st.length + 1) j (by omega) (by omega)
  have hw := scF_up h q.ts.toNat (st.length + 1) (st'.length + 1) j (by rw [h.len]; omega) (by omega) d hd
  refine ⟨d, by unfold scOf; rw [hj]; exact hd, hdl, ?_⟩
  unfold scOf
  show scF st' (q.ts + 1).toNat (st'.length + 1) (outAt st' (q.own + 1)) = _
  rw [h.ou _ o1, hj, show (q.ts + 1).toNat = q.ts.toNat + 1 by omega]
  exact hw
theorem lef_up {q : TrQ} (hq : QOk st q) {b : Bool} {a' a : List Bool} (ha : Up b a' a) : Up false (lefB st' a' (hQ2 q)) (lefB st a q) := by
  obtain ⟨d, d1, d2, d3⟩ := sc_up h hk0 hq
  unfold lefB
  rw [if_neg (by omega), if_neg (by omega), d1, d3, Int.toNat_natCast, Int.toNat_natCast]
  unfold actB
  rw [h.en d d2]
  exact ha.bel d _
theorem fi_up {q : TrQ} (hq : QOk st q) : fiOf st' (hQ2 q) = fiOf st q + 1 := by
  obtain ⟨d, d1, d2, d3⟩ := sc_up h hk0 hq
  have := hq.t1
  unfold fiOf
  rw [if_neg (by omega), if_neg (by omega), d1, d3, Int.toNat_natCast, Int.toNat_natCast]
  show inTo st' (d + 1) (q.ts + 1).toNat = _
  rw [show (q.ts + 1).toNat = q.ts.toNat + 1 by omega]
  exact inTo_up h d2 _
end
/-! The player. -/
structure PU (p' p : Py) : Prop where
  act : Up true p'.act p.act
  l1 : p'.mm.length = 26
  l2 : p.mm.length = 26
  m0 : ∀ k, mem (memAt p'.mm 0) k = false
  sh : ∀ k, Up false (memAt p'.mm (k + 1)) (memAt p.mm k)
  out : p'.out = p.out
theorem memAt_set (mm : List (List Bool)) (i k : Nat) (m : List Bool) : memAt (mm.set i m) k = if i = k ∧ k < mm.length then m else memAt mm k := by
  unfold memAt
  rw [List.getElem?_set]
  by_cases e : i = k
  · by_cases e2 : k < mm.length
    · simp [e, e2]
    · simp [e, e2]
  · simp [e]
theorem PU.actSet {p' p : Py} (h : PU p' p) {k : Nat} (hk : k < 25) (v : Bool) (o' o : List UInt8) (ho : o' = o) : PU { p' with act := p'.act.set (k + 1) v, out := o' } { p with act := p.act.set k v, out := o } :=
  ⟨h.act.set hk v, h.l1, h.l2, h.m0, h.sh, ho⟩
theorem PU.mmSet {p' p : Py} (h : PU p' p) {i : Nat} (hi : i < 25) {m' m : List Bool} (hm : Up false m' m) : PU { p' with mm := p'.mm.set (i + 1) m' } { p with mm := p.mm.set i m } := by
  refine ⟨h.act, by show (p'.mm.set _ _).length = 26; rw [List.length_set]; exact h.l1, by show (p.mm.set _ _).length = 26; rw [List.length_set]; exact h.l2, fun k => ?_, fun k => ?_, h.out⟩
  · show mem (memAt (p'.mm.set (i + 1) m') 0) k = false
    rw [memAt_set, if_neg (by omega)]; exact h.m0 k
  · show Up false (memAt (p'.mm.set (i + 1) m') (k + 1)) (memAt (p.mm.set i m) k)
    rw [memAt_set, memAt_set]
    by_cases e : i = k
    · subst e
      rw [if_pos ⟨rfl, by rw [h.l1]; omega⟩, if_pos ⟨rfl, by rw [h.l2]; omega⟩]; exact hm
    · rw [if_neg (by omega), if_neg (by omega)]; exact h.sh k
/-- An aim, one place further on. -/
def hA (a : Am) : Am := ⟨if a.target < 0 then -1 else a.target + 1, a.mark, if a.memory < 0 then -1 else a.memory + 1⟩
theorem hA_free : hA Am.free = Am.free := rfl
section
variable {st st' : List StP} (h : Wp st st')
include h
theorem chP_up {p' p : Py} (hp : PU p' p) {s : Nat} (hs : s < st.length) {a : Am} (ha : AmOk st a) : chP st' p'.mm (s + 1) (hA a) = ((chP st p.mm s a).1 + 1, hA (chP st p.mm s a).2) ∧ AmOk st (chP st p.mm s a).2 := by
  obtain ⟨a1, a2, a3, a4⟩ := ha
  have hfree : AmOk st Am.free := ⟨by decide, by show (-1 : Int) < _; omega, by decide, by show (-1 : Int) < _; omega⟩
  unfold chP
  by_cases c1 : a.memory ≠ -1
  · have e1 : (hA a).memory = a.memory + 1 := by unfold hA; simp only; rw [if_neg (by omega)]
    rw [if_pos c1, if_pos (by rw [e1]; omega)]
    refine ⟨?_, ⟨a1, a2, a3, a4⟩⟩
    rw [e1, show (a.memory + 1).toNat = a.memory.toNat + 1 by omega, inAm_up h (hp.sh _) hs]
  · have c1' : a.memory = -1 := by omega
    have e1 : (hA a).memory = -1 := by unfold hA; simp only; rw [if_pos (by omega)]
    rw [if_neg c1, if_neg (by rw [e1]; simp)]
    by_cases c2 : a.target = -1
    · have e2 : (hA a).target = -1 := by unfold hA; simp only; rw [if_pos (by omega)]
      rw [if_pos c2, if_pos e2]
      exact ⟨rfl, hfree⟩
    · have e2 : (hA a).target = a.target + 1 := by unfold hA; simp only; rw [if_neg (by omega)]
      rw [if_neg c2, if_neg (by rw [e2]; omega), e2, show (a.target + 1).toNat = a.target.toNat + 1 by omega, isB_up h _ hs]
      by_cases c3 : isB st a.target.toNat s = true
      · rw [if_pos c3, if_pos c3, inTo_up h hs]
        exact ⟨rfl, ⟨a1, a2, a3, a4⟩⟩
      · rw [if_neg c3, if_neg c3]
        have e4 := (hp.sh s).empty
        have em : (hA a).mark = a.mark := rfl
        rw [e4, em]
        by_cases c4 : a.target ≠ (s : Int) ∨ a.mark = 0 ∨ emp (memAt p.mm s) = true
        · rw [if_pos c4, if_pos (by
            rcases c4 with c | c
            · exact Or.inl (by omega)
            · exact Or.inr c)]
          exact ⟨rfl, hfree⟩
        · rw [if_neg c4, if_neg (by
            rintro (c | c)
            · exact c4 (Or.inl (by omega))
            · exact c4 (Or.inr c))]
          have hi := inAm_up h (hp.sh s) hs
          by_cases c5 : a.mark = 42
          · rw [if_pos c5, if_pos c5, hi]
            refine ⟨?_, ⟨by show (-1 : Int) ≤ -1; omega, by show (-1 : Int) < _; omega, by show (-1 : Int) ≤ (s : Int); omega, by show (s : Int) < _; omega⟩⟩
            congr 1
          · rw [if_neg c5, if_neg c5, hi]
            exact ⟨rfl, hfree⟩
omit h in
theorem itF_up (g g' : Nat → Py → Py) (hg : ∀ i p' p, i < st.length → PU p' p → PU (g' (i + 1) p') (g i p)) : ∀ (n i : Nat) (p' p : Py), i + n ≤ st.length → PU p' p → PU (itF g' n (i + 1) p') (itF g n i p)
  | 0, i, p', p, _, hp => hp
  | n + 1, i, p', p, hi, hp => itF_up g g' hg n (i + 1) _ _ (by omega) (hg i p' p (by omega) hp)
theorem enF_up : ∀ (f s : Nat) (a : Am) (p' p : Py), s < st.length → AmOk st a → PU p' p → PU (enF st' f (s + 1) (hA a) p') (enF st f s a p)
  | 0, s, a, p', p, hs, ha, hp => hp
  | f + 1, s, a, p', p, hs, ha, hp => by
    obtain ⟨x, hx⟩ : ∃ x, st[s]? = some x := ⟨_, List.getElem?_eq_getElem hs⟩
    obtain ⟨x', hx', k1, k2, k3, -⟩ := h.gt s x hx
    have h25 := h.n25
    have hen := h.tr.wf.en s x hx
    have h1 : PU { p' with act := p'.act.set (s + 1) true, out := p'.out ++ bls x'.enter } { p with act := p.act.set s true, out := p.out ++ bls x.enter } := hp.actSet (by omega) true _ _ (by rw [hp.out, k3])
    by_cases h2 : x.kind = 2
    · rw [enF_and hx h2, enF_and hx' (by rw [k1]; exact h2), k2, show x.end_ + 1 - (s + 1 + 1) = x.end_ - (s + 1) by omega]
      refine itF_up (st := st) _ _ ?_ _ _ _ _ (by omega) h1
      intro i q' q hi hq
      by_cases e : outAt st i = (s : Int)
      · rw [if_pos e, if_pos (by rw [h.ou i hi, e]; omega)]
        exact enF_up f i a q' q hi ha hq
      · rw [if_neg e, if_neg (by rw [h.ou i hi]; omega)]
        exact hq
    · by_cases h3 : x.kind = 1
      · have hin : s + 1 < endAt st s := by rw [endAt_at hx]; exact h.tr.wf.inn s x hx (by omega)
        obtain ⟨c1, c2⟩ := chP_up h hp hs ha
        have hc := chP_ch h.tr hs hin p.mm a
        rw [enF_or hx h3, enF_or hx' (by rw [k1]; exact h3), c1]
        exact enF_up f _ _ _ _ hc.1 c2 h1
      · rw [enF_leaf hx h2 h3, enF_leaf hx' (by rw [k1]; exact h2) (by rw [k1]; exact h3)]
        exact h1
end
/-- More fuel than there are states changes nothing. -/
theorem enF_more {st : List StP} (ht : Tr st) : ∀ (f s : Nat) (a : Am) (p : Py), st.length - s ≤ f → enF st (f + 1) s a p = enF st f s a p
  | 0, s, a, p, hf => by
    have hx : st[s]? = none := List.getElem?_eq_none (by omega)
    simp only [enF, hx]
  | f + 1, s, a, p, hf => by
    cases hx : st[s]? with
    | none => simp only [enF, hx]
    | some x =>
      have hs := (List.getElem?_eq_some_iff.1 hx).1
      have hen := ht.wf.en s x hx
      by_cases h2 : x.kind = 2
      · rw [enF_and hx h2, enF_and hx h2]
        have hit : ∀ (n i : Nat) (q : Py), s < i → itF (fun i q => if outAt st i = (s : Int) then enF st (f + 1) i a q else q) n i q = itF (fun i q => if outAt st i = (s : Int) then enF st f i a q else q) n i q := by
          intro n
          induction n with
          | zero => intro i q _; rfl
          | succ n ih =>
            intro i q hi
            show itF _ n (i + 1) _ = itF _ n (i + 1) _
            rw [ih (i + 1) _ (by omega)]
            congr 1
            show (if outAt st i = (s : Int) then enF st (f + 1) i a q else q) = (if outAt st i = (s : Int) then enF st f i a q else q)
            split
            · exact enF_more ht f i a q (by omega)
            · rfl
        exact hit _ _ _ (by omega)
      · by_cases h3 : x.kind = 1
        · have hin : s + 1 < endAt st s := by rw [endAt_at hx]; exact ht.wf.inn s x hx (by omega)
          have hc := chP_ch ht hs hin p.mm a
          have hc2 := ht.child hc.1 hc.2
          rw [enF_or hx h3, enF_or hx h3]
          exact enF_more ht f _ _ _ (by omega)
        · rw [enF_leaf hx h2 h3, enF_leaf hx h2 h3]
end Go.Proofs.Ytmolmbeeoecnfaa

/- Own work: a chart within another one goes through the same statuses: a step, every list of events, the status' text. -/
namespace Go.Proofs.Ytmolmbeeoecnfaa
open Go.RowKit Go.BigFrame
set_option linter.unusedVariables false
set_option linter.unusedSimpArgs false

section
variable {st st' : List StP} (h : Wp st st')
include h
theorem rmM_up (wh : Bool) {a' a : List Bool} (ha : Up true a' a) {i : Nat} (hi : i < st.length) (hin : i + 1 < endAt st i) : Up false (rmM st' wh a' (i + 1)) (rmM st wh a i) := by
  have h25 := h.n25
  have hB : Up false (actB st' a' (i + 1)) (actB st a i) := by unfold actB; rw [h.en i hi]; exact ha.bel i _
  unfold rmM
  split
  · exact hB
  · rw [inAm_up h hB hi]
    have hb : inAm st i (actB st a i) < 25 := by
      have he := h.tr.end_gt hi
      unfold inAm
      rcases firstB_spec (inA st i (actB st a i)) (endAt st i) with ⟨h1, -⟩ | ⟨k, h1, h2, -⟩
      · rw [h1]; show i + 1 < 25; omega
      · rw [h1]; show k < 25; omega
    exact Up.no.set hb true
theorem rmF_up {l' l : List Bool} (hl : Up false l' l) : ∀ (k : Nat) (p' p : Py), k ≤ st.length → PU p' p → PU (rmF st' l' (k + 1) p') (rmF st l k p)
  | 0, p', p, _, hp => by
    obtain ⟨x, hx, -, -, hr⟩ := h.g0
    show PU (rmS st' l' 0 p') p
    unfold rmS
    rw [hx]
    simp only
    rw [if_neg (by rw [hr]; simp)]
    exact hp
  | k + 1, p', p, hk, hp => by
    have ih := rmF_up hl k p' p (by omega) hp
    have h25 := h.n25
    show PU (rmS st' l' (k + 1) (rmF st' l' (k + 1) p')) (rmS st l k (rmF st l k p))
    generalize rmF st' l' (k + 1) p' = q' at ih ⊢
    generalize rmF st l k p = q at ih ⊢
    obtain ⟨x, hx⟩ : ∃ x, st[k]? = some x := ⟨_, List.getElem?_eq_getElem (by omega)⟩
    obtain ⟨x', hx', -, -, -, -, k5, k6, -⟩ := h.gt k x hx
    unfold rmS
    rw [hx, hx']
    simp only
    rw [hl.sh, k5, k6]
    by_cases c : mem l k = true ∧ x.rem = true
    · rw [if_pos c, if_pos c]
      exact ih.mmSet (by omega) (rmM_up h _ ih.act (by omega) (by rw [endAt_at hx]; exact h.tr.wf.inn k x hx (h.rm k x hx c.2)))
    · rw [if_neg c, if_neg c]
      exact ih
theorem lvF_up {l' l : List Bool} (hl : Up false l' l) : ∀ (k : Nat) (p' p : Py), k ≤ st.length → PU p' p → PU (lvF st' l' (k + 1) p') (lvF st l k p)
  | 0, p', p, _, hp => by
    show PU (if mem l' 0 = true then _ else p') p
    rw [hl.m0, if_neg (by decide)]
    exact hp
  | k + 1, p', p, hk, hp => by
    have h25 := h.n25
    obtain ⟨x, hx⟩ : ∃ x, st[k]? = some x := ⟨_, List.getElem?_eq_getElem (by omega)⟩
    obtain ⟨x', hx', -, -, -, k4, -⟩ := h.gt k x hx
    have el : leaveAt st' (k + 1) = leaveAt st k := by unfold leaveAt; rw [hx, hx']; exact k4
    show PU (lvF st' l' (k + 1) (if mem l' (k + 1) = true then { p' with act := p'.act.set (k + 1) false, out := p'.out ++ bls (leaveAt st' (k + 1)) } else p')) (lvF st l k (if mem l k = true then { p with act := p.act.set k false, out := p.out ++ bls (leaveAt st k) } else p))
    rw [hl.sh]
    by_cases c : mem l k = true
    · rw [if_pos c, if_pos c]
      exact lvF_up hl k _ _ (by omega) (hp.actSet (by omega) false _ _ (by rw [hp.out, el]))
    · rw [if_neg c, if_neg c]
      exact lvF_up hl k p' p (by omega) hp
end
section
variable {st st' : List StP} (h : Wp st st') (hk0 : kindAt st 0 = 1)
include h hk0
theorem tkF_up {q : TrQ} (hq : QOk st q) {p' p : Py} (hp : PU p' p) : PU (tkF st' (hQ2 q) p') (tkF st q p) := by
  have h25 := h.n25
  have ht1 := hq.t1
  have hfi := fiOf_in st h.tr.wf q hq.ok
  have hl := lef_up h hk0 hq hp.act
  unfold tkF
  rw [fi_up h hk0 hq, h.len]
  have h1 := lvF_up h hl st.length _ _ (Nat.le_refl _) (rmF_up h hl st.length p' p (Nat.le_refl _) hp)
  have ea : (⟨(hQ2 q).ts, (hQ2 q).mark, -1⟩ : Am) = hA ⟨q.ts, q.mark, -1⟩ := by
    unfold hA
    simp only
    rw [if_neg (by omega), if_pos (by decide)]
    rfl
  rw [ea]
  refine enF_up h 26 _ _ _ _ hfi ⟨by show (-1 : Int) ≤ q.ts; omega, hq.ok.2.2, by show (-1 : Int) ≤ -1; omega, by show (-1 : Int) < _; omega⟩ ?_
  exact ⟨h1.act, h1.l1, h1.l2, h1.m0, h1.sh, by show _ ++ bls q.acts = _ ++ bls q.acts; rw [h1.out]⟩
/-! What is called. -/
def gH (t : TrH) : TrH := ⟨hQ2 t.q, t.cv⟩
variable {th : List TrH} (hth : ∀ t ∈ th, QOk st t.q)
include hth
omit h hk0 hth in
theorem holdB_up {b : Bool} {a' a : List Bool} (ha : Up b a' a) (cs : List CdP) (hc : CdOn cs) : holdB a' (cs.map hC2) = holdB a cs := by
  have hf : fails a' (cs.map hC2) = fails a cs := by
    funext k
    unfold fails
    rw [List.getElem?_map]
    cases hx : cs[k]? with
    | none => rfl
    | some x =>
      have h1 := hc x (List.mem_of_getElem? hx)
      show (mem a' (x.state + 1).toNat != x.active) = _
      rw [show (x.state + 1).toNat = x.state.toNat + 1 by omega, ha.sh]
  unfold holdB; rw [hf, List.length_map]
omit h hk0 in
theorem posB_up {b : Bool} {a' a : List Bool} (ha : Up b a' a) (s : Nat) (ev : UInt8) (k : Nat) : posB (th.map gH) a' (s + 1) ev k = posB th a s ev k := by
  unfold posB
  rw [List.getElem?_map]
  cases hx : th[k]? with
  | none => rfl
  | some t =>
    show ((t.q.own + 1 == s + 1) && (t.q.event == ev && holdB a' (t.q.conds.map hC2))) = (t.q.own == s && (t.q.event == ev && holdB a t.q.conds))
    rw [holdB_up ha t.q.conds (hth t (List.mem_of_getElem? hx)).cs]
    congr 1
    rw [Bool.eq_iff_iff, beq_iff_eq, beq_iff_eq]; omega
omit h hk0 hth in
theorem posB_0 (a' : List Bool) (ev : UInt8) (k : Nat) : posB (th.map gH) a' 0 ev k = false := by
  unfold posB
  rw [List.getElem?_map]
  cases hx : th[k]? with
  | none => rfl
  | some t =>
    show ((t.q.own + 1 == 0) && _) = false
    simp
omit h hk0 in
theorem fpo_up {b : Bool} {a' a : List Bool} (ha : Up b a' a) (s : Nat) (ev : UInt8) : fpo (th.map gH) a' (s + 1) ev = fpo th a s ev := by
  have e : posB (th.map gH) a' (s + 1) ev = posB th a s ev := by funext k; exact posB_up (st := st) hth ha s ev k
  unfold fpo; rw [e, List.length_map]
omit h hk0 hth in
theorem fpo_0 (a' : List Bool) (ev : UInt8) : fpo (th.map gH) a' 0 ev = -1 := by
  unfold fpo; rw [firstB_none _ _ (fun j _ => posB_0 a' ev j)]
omit hk0 in
theorem cfF_up {b : Bool} {a' a : List Bool} (ha : Up b a' a) (ev : UInt8) : ∀ (f f' s : Nat), s < f → f + 1 ≤ f' → s < st.length → cfF st' (th.map gH) a' ev f' ((s + 1 : Nat) : Int) = cfF st th a ev f (s : Int)
  | 0, f', s, h1, _, _ => by omega
  | f + 1, 0, s, _, h2, _ => by omega
  | f + 1, f' + 1, s, h1, h2, hs => by
    unfold cfF
    rw [if_neg (show ¬ ((s + 1 : Nat) : Int) = -1 by omega), if_neg (show ¬ (s : Int) = -1 by omega), Int.toNat_natCast, Int.toNat_natCast, fpo_up (st := st) hth ha]
    by_cases c : fpo th a s ev ≠ -1
    · rw [if_pos c, if_pos c]
    · rw [if_neg c, if_neg c, h.ou s hs]
      have ho := h.tr.out_lt hs
      by_cases e : outAt st s = -1
      · rw [e]
        have e1 : cfF st th a ev f (-1) = -1 := by cases f <;> simp [cfF]
        have e2 : cfF st' (th.map gH) a' ev f' (-1 + 1) = -1 := by
          cases f' with
          | zero => rfl
          | succ g =>
            unfold cfF
            rw [if_neg (by decide)]
            show (if fpo (th.map gH) a' 0 ev ≠ -1 then _ else cfF st' (th.map gH) a' ev g (outAt st' 0)) = -1
            rw [fpo_0, if_neg (by simp), h.o0]
            cases g <;> simp [cfF]
        rw [e1, e2]
      · obtain ⟨j, hj⟩ : ∃ j : Nat, outAt st s = (j : Int) := ⟨(outAt st s).toNat, by omega⟩
        rw [hj]
        exact cfF_up ha ev f f' j (by omega) (by omega) (by omega)
omit hk0 in
theorem clK_up {b : Bool} {a' a : List Bool} (ha : Up b a' a) (ev : UInt8) : ∀ k, k ≤ st.length → clK st' (th.map gH) a' ev (k + 1) = clK st th a ev k
  | 0, _ => by
    rw [clK_succ]
    unfold cl1
    rw [if_neg (by rw [h.k0]; simp)]
    rfl
  | k + 1, hk => by
    rw [clK_succ, clK_succ st, clK_up ha ev k (by omega)]
    unfold cl1 cfO
    rw [h.kd, ha.sh, cfF_up h hth ha ev (st.length + 1) (st'.length + 1) k (by omega) (by rw [h.len]; omega) (by omega)]
theorem wcF_up {b : Bool} {a' a : List Bool} (ha : Up b a' a) : ∀ (ns : List Nat) (z' z : List Nat × List Bool), z'.1 = z.1 → Up false z'.2 z.2 → (ns.foldl (wc1 st' (th.map gH) a') z').1 = (ns.foldl (wc1 st th a) z).1
  | [], z', z, h1, h2 => h1
  | k :: ns, z', z, h1, h2 => by
    rw [List.foldl_cons, List.foldl_cons]
    cases hx : th[k]? with
    | none =>
      have e1 : wc1 st th a z k = z := by unfold wc1; rw [hx]
      have e2 : wc1 st' (th.map gH) a' z' k = z' := by unfold wc1; rw [List.getElem?_map, hx]; rfl
      rw [e1, e2]
      exact wcF_up ha ns z' z h1 h2
    | some t =>
      have hl := lef_up h hk0 (hth t (List.mem_of_getElem? hx)) ha
      have e1 : wc1 st th a z k = if mts (lefB st a t.q) z.2 = true then z else (z.1 ++ [k], unK z.2 (lefB st a t.q) 26) := by unfold wc1; rw [hx]
      have e2 : wc1 st' (th.map gH) a' z' k = if mts (lefB st' a' (hQ2 t.q)) z'.2 = true then z' else (z'.1 ++ [k], unK z'.2 (lefB st' a' (hQ2 t.q)) 26) := by unfold wc1; rw [List.getElem?_map, hx]; rfl
      rw [e1, e2, hl.meets h2]
      by_cases c : mts (lefB st a t.q) z.2 = true
      · rw [if_pos c, if_pos c]
        exact wcF_up ha ns z' z h1 h2
      · rw [if_neg c, if_neg c]
        exact wcF_up ha ns _ _ (by show z'.1 ++ [k] = z.1 ++ [k]; rw [h1]) (h2.un hl)
theorem tkn_up {b : Bool} {a' a : List Bool} (ha : Up b a' a) (ev : UInt8) : tkn st' (th.map gH) a' ev = tkn st th a ev := by
  unfold tkn wcL clL
  rw [h.len, clK_up h hth ha ev st.length (Nat.le_refl _)]
  exact wcF_up h hk0 hth ha _ ([], noSet) ([], noSet) rfl Up.no
theorem foldT_up : ∀ (ns : List Nat) (p' p : Py), PU p' p → PU (ns.foldl (tk1 st' (th.map gH)) p') (ns.foldl (tk1 st th) p)
  | [], p', p, hp => hp
  | n :: ns, p', p, hp => by
    rw [List.foldl_cons, List.foldl_cons]
    refine foldT_up ns _ _ ?_
    cases hx : th[n]? with
    | none =>
      have e1 : tk1 st th p n = p := by unfold tk1; rw [hx]
      have e2 : tk1 st' (th.map gH) p' n = p' := by unfold tk1; rw [List.getElem?_map, hx]; rfl
      rw [e1, e2]; exact hp
    | some t =>
      have e1 : tk1 st th p n = tkF st t.q p := by unfold tk1; rw [hx]
      have e2 : tk1 st' (th.map gH) p' n = tkF st' (hQ2 t.q) p' := by unfold tk1; rw [List.getElem?_map, hx]; rfl
      rw [e1, e2]; exact tkF_up h hk0 (hth t (List.mem_of_getElem? hx)) hp
theorem evStep_up {p' p : Py} (hp : PU p' p) (ev : UInt8) : PU (evStep st' (th.map gH) p' ev) (evStep st th p ev) := by
  unfold evStep spF
  show PU ((tkn st' (th.map gH) p'.act ev).foldl _ _) ((tkn st th p.act ev).foldl _ _)
  rw [tkn_up h hk0 hth hp.act ev]
  exact foldT_up h hk0 hth _ _ _ ⟨hp.act, hp.l1, hp.l2, hp.m0, hp.sh, by show p'.out ++ [46] = p.out ++ [46]; rw [hp.out]⟩
omit hk0 hth in
theorem start_up : PU (enF st' 26 0 Am.free py0) (enF st 26 0 Am.free py0) := by
  obtain ⟨x, hx, x1, x2, x3⟩ := h.g0
  have h25 := h.n25
  have hs0 := h.tr.s0
  have e1 : enF st' 26 0 Am.free py0 = enF st' 25 (chP st' py0.mm 0 Am.free).1 (chP st' py0.mm 0 Am.free).2 { py0 with act := py0.act.set 0 true, out := py0.out ++ bls x.enter } := enF_or hx x1 25 Am.free py0
  have e2 : chP st' py0.mm 0 Am.free = (1, Am.free) := rfl
  have e3 : enF st 26 0 Am.free py0 = enF st 25 0 Am.free py0 := enF_more h.tr 25 0 Am.free py0 (by omega)
  rw [e1, e2, x2, e3]
  show PU (enF st' 25 (0 + 1) (hA Am.free) _) _
  refine enF_up h 25 0 Am.free _ _ hs0 ⟨by decide, by show (-1 : Int) < _; omega, by decide, by show (-1 : Int) < _; omega⟩ ?_
  have hmm : ∀ k, memAt py0.mm k = noSet := fun k => by
    unfold memAt py0
    simp only
    rw [List.getElem?_replicate]
    split
    · rename_i m hm; split at hm
      · injection hm with hm; exact hm.symm
      · cases hm
    · rfl
  refine ⟨⟨?_, noSet_len, ?_, ?_⟩, by simp [py0], by simp [py0], fun k => ?_, fun k => ?_, rfl⟩
  · show (noSet.set 0 true).length = 26; rw [List.length_set]; exact noSet_len
  · exact mem_set_self (by show 0 < noSet.length; rw [noSet_len]; omega) true
  · intro k
    show mem (noSet.set 0 true) (k + 1) = mem noSet k
    rw [mem_set_ne (by omega), mem_no, mem_no]
  · show mem (memAt py0.mm 0) k = false
    rw [hmm]; exact mem_no k
  · show Up false (memAt py0.mm (k + 1)) (memAt py0.mm k)
    rw [hmm, hmm]; exact Up.no
theorem plK_up (es : ByteArray) : ∀ k, PU (plK st' (th.map gH) es k) (plK st th es k)
  | 0 => start_up h
  | k + 1 => evStep_up h hk0 hth (plK_up es k) (byte es k)
end
/-! The status' text. -/
section
variable {st st' : List StP} (h : Wp st st') (c : UInt8) (hc : nameAt st' 0 = c)
include h hc
theorem nmK_up {b : Bool} {l' l : List Bool} (hl : Up b l' l) : ∀ k, k ≤ st.length → nmK st' l' (k + 1) = (if b = true then [c] else []) ++ nmK st l k
  | 0, _ => by
    show (if mem l' 0 = true then nmK st' l' 0 ++ [nameAt st' 0] else nmK st' l' 0) = _
    rw [hl.m0, hc]
    cases b <;> rfl
  | k + 1, hk => by
    have ih := nmK_up hl k (by omega)
    obtain ⟨x, hx⟩ : ∃ x, st[k]? = some x := ⟨_, List.getElem?_eq_getElem (by omega)⟩
    obtain ⟨x', hx', -, -, -, -, -, -, k7⟩ := h.gt k x hx
    have en : nameAt st' (k + 1) = nameAt st k := by rw [nameAt_at hx, nameAt_at hx']; exact k7
    show (if mem l' (k + 1) = true then nmK st' l' (k + 1) ++ [nameAt st' (k + 1)] else nmK st' l' (k + 1)) = _ ++ (if mem l k = true then nmK st l k ++ [nameAt st k] else nmK st l k)
    rw [hl.sh, ih, en]
    split
    · rw [List.append_assoc]
    · rfl
theorem stT_up {p' p : Py} (hp : PU p' p) : ∀ k, k ≤ st.length → stT st' p'.act p'.mm (k + 1) = c :: stT st p.act p.mm k
  | 0, _ => by
    have h0 : emp (memAt p'.mm 0) = true := (emp_iff _).2 (fun i _ => hp.m0 i)
    show (if emp (memAt p'.mm 0) = true then stT st' p'.act p'.mm 0 else _) = _
    rw [if_pos h0]
    show nmK st' p'.act st'.length = c :: nmK st p.act st.length
    rw [h.len, nmK_up h c hc hp.act _ (Nat.le_refl _)]
    rfl
  | k + 1, hk => by
    have ih := stT_up hp k (by omega)
    obtain ⟨x, hx⟩ : ∃ x, st[k]? = some x := ⟨_, List.getElem?_eq_getElem (by omega)⟩
    obtain ⟨x', hx', -, -, -, -, -, -, k7⟩ := h.gt k x hx
    have en : nameAt st' (k + 1) = nameAt st k := by rw [nameAt_at hx, nameAt_at hx']; exact k7
    show (if emp (memAt p'.mm (k + 1)) = true then stT st' p'.act p'.mm (k + 1) else (stT st' p'.act p'.mm (k + 1) ++ [47, nameAt st' (k + 1)]) ++ nmK st' (memAt p'.mm (k + 1)) st'.length) = c :: (if emp (memAt p.mm k) = true then stT st p.act p.mm k else (stT st p.act p.mm k ++ [47, nameAt st k]) ++ nmK st (memAt p.mm k) st.length)
    rw [(hp.sh k).empty, ih, en, h.len, nmK_up h c hc (hp.sh k) _ (Nat.le_refl _)]
    split
    · rfl
    · rfl
end
end Go.Proofs.Ytmolmbeeoecnfaa

/- Own work: a chart within another one: what Play answers of both. -/
namespace Go.Proofs.Ytmolmbeeoecnfaa
open Go.RowKit Go.BigFrame
set_option linter.unusedVariables false
set_option linter.unusedSimpArgs false

/-- What the law asks of the chart. -/
structure WiOk (c : UInt8) (t : ByteArray) : Prop where
  u : (unE t).1 = 0
  cn : isN c = true
  nm : ∀ x ∈ (rcR t).2.st, x.name ≠ c
  dp : ∀ x ∈ (rcR t).2.st, x.depth < 6
  sz : t.size ≤ 157
  kd : kindAt (unSt t) 0 = 1
  tr : ∀ q ∈ (rcR t).2.tr, q.own ≠ 0 ∧ q.tn ≠ nameAt (unSt t) 0
theorem WiOk.wp {c : UInt8} {t : ByteArray} (h : WiOk c t) : Wp (unSt t) (unSt (wrp c t)) := by
  obtain ⟨h1, h2, h3⟩ := un_w h.cn h.u h.nm h.dp h.sz
  have hp := plan_ok t h.u
  have hp' := plan_ok (wrp c t) (by rw [h1])
  have h26 := hp'.wf.len
  have ht : Tr (unSt t) := ⟨hp.wf, un_tre h.u, hp.s0⟩
  rw [h2] at h26 ⊢
  rw [up_len] at h26
  refine ⟨ht, by omega, hp.rm, up_len _ _, rfl, rfl, rfl, fun k hk => ?_, fun k hk => ?_, fun k => ?_, fun k x hx => ?_, ⟨_, rfl, rfl, rfl, rfl⟩⟩
  · obtain ⟨x, hx⟩ : ∃ x, (unSt t)[k]? = some x := ⟨_, List.getElem?_eq_getElem hk⟩
    have := hp.wf.en k x hx
    unfold endAt
    rw [up_get, hx]
    show (if x.end_ = 0 then 0 else x.end_ + 1) = x.end_ + 1
    rw [if_neg (by omega)]
  · obtain ⟨x, hx⟩ : ∃ x, (unSt t)[k]? = some x := ⟨_, List.getElem?_eq_getElem hk⟩
    unfold outAt
    rw [up_get, hx]
    rfl
  · unfold kindAt
    rw [up_get]
    cases (unSt t)[k]? <;> rfl
  · have := hp.wf.en k x hx
    refine ⟨hS x, by rw [up_get, hx]; rfl, rfl, ?_, rfl, rfl, rfl, rfl, rfl⟩
    show (if x.end_ = 0 then 0 else x.end_ + 1) = x.end_ + 1
    rw [if_neg (by omega)]
theorem WiOk.qs {c : UInt8} {t : ByteArray} (h : WiOk c t) : ∀ x ∈ th0 t, QOk (unSt t) x.q := by
  intro x hx
  obtain ⟨q, hq, rfl⟩ := List.mem_map.1 hx
  have hp := (plan_ok t h.u).trs q hq
  obtain ⟨q0, hq0, rfl⟩ := List.mem_map.1 hq
  obtain ⟨o1, o2⟩ := h.tr q0 hq0
  have hts : 0 ≤ (resQ (rcR t).2.st q0).ts := hp.1.2.1
  refine ⟨hp.1, by show 0 < q0.own; omega, ?_, hp.2.1⟩
  show 0 < idxP (rcR t).2.st q0.tn
  have hts' : 0 ≤ idxP (rcR t).2.st q0.tn := hts
  by_cases e : idxP (rcR t).2.st q0.tn = 0
  · exfalso
    unfold idxP at e
    rcases firstB_spec (isNmP (rcR t).2.st q0.tn) (rcR t).2.st.length with ⟨g1, -⟩ | ⟨k, g1, g2, g3, -⟩
    · rw [g1] at e; cases e
    · rw [g1] at e
      have : k = 0 := by simp only at e; omega
      subst this
      have hS := un_sm h.u
      have hl := hS.1
      obtain ⟨x, hx⟩ : ∃ x, (unSt t)[0]? = some x := ⟨_, List.getElem?_eq_getElem (by omega)⟩
      obtain ⟨y, hy, hs⟩ := hS.2 0 x hx
      unfold isNmP at g3
      rw [hy] at g3
      simp only [beq_iff_eq] at g3
      exact o2 (by rw [nameAt_at hx, hs.n, g3])
  · omega
theorem WiOk.play {c : UInt8} {t : ByteArray} (h : WiOk c t) (es : ByteArray) : unE (wrp c t) = (0, 0) ∧ pO (wrp c t) es = pO t es ∧ pS (wrp c t) es = ⟨#[c]⟩ ++ pS t es := by
  obtain ⟨h1, h2, h3⟩ := un_w h.cn h.u h.nm h.dp h.sz
  have hth : th0 (wrp c t) = (th0 t).map gH := by
    unfold th0
    rw [h3, List.map_map, List.map_map]
    rfl
  have hpu := plK_up h.wp h.kd h.qs es es.size
  rw [← hth] at hpu
  have hpu' : PU (plQ (wrp c t) es) (plQ t es) := hpu
  have hc0 : nameAt (unSt (wrp c t)) 0 = c := by rw [h2]; rfl
  refine ⟨h1, ?_, ?_⟩
  · rw [pO, pO, if_pos h.u, if_pos (by rw [h1]), hpu'.out]
  · rw [pS, pS, if_pos h.u, if_pos (by rw [h1]), h.wp.len, stT_up h.wp c hc0 hpu' _ (Nat.le_refl _)]
    apply ByteArray.ext
    rw [ByteArray.data_append]
    apply Array.toList_inj.1
    simp
end Go.Proofs.Ytmolmbeeoecnfaa
