/- Own work: the program's answer of a table is the document's: plainly. -/
import Derived.Test.YtmolmbeeoecnfaaTD6
namespace Go.Proofs.Ytmolmbeeoecnfaa
set_option linter.unusedVariables false
set_option linter.unusedSimpArgs false

def RwOk (x : Rw) : Prop := (0 ≤ x.same ∧ byte x.text 0 = 61) ∨ (x.same = -1 ∧ byte x.text 0 ≠ 61)

theorem rowP_ok (s : ByteArray) (wd i : Nat) (hi : i ≤ s.size) (h : (rowP s wd i).1 = true) : RwOk (rowP s wd i).2.2 := by
  revert h
  unfold rowP
  simp only
  split
  · rename_i h61
    split
    · intro h; cases h
    · rename_i hd
      have hb := nend_bd s (i + 1) (by simpa using hd)
      split
      · intro h; cases h
      · intro _
        left
        refine ⟨by simp only; omega, ?_⟩
        simp only
        rw [byte_cut s i _ 0 hb.2 (by omega)]
        exact h61
  · rename_i h61
    have hb := clF_bd s wd i [] hi
    split
    · intro h; cases h
    · split
      · intro h; cases h
      · intro _
        right
        refine ⟨rfl, ?_⟩
        simp only
        by_cases e : i < (clF s wd i []).2.1
        · rw [byte_cut s i _ 0 hb.2 (by omega)]; exact h61
        · rw [show (clF s wd i []).2.1 = i by omega, cut_self, byte_out _ 0 (by simp)]; decide
theorem rwF_ok (s : ByteArray) (wd : Nat) : ∀ (f i : Nat) (a : List Rw), i ≤ s.size → (∀ r ∈ a, RwOk r) → ∀ r ∈ (rwF s wd f i a).2.2, RwOk r
  | 0, i, a, hi, h => h
  | f + 1, i, a, hi, h => by
    have hb := rowP_bd s wd i hi
    simp only [rwF]
    split
    · exact h
    · have hw := rowP_ok s wd i hi (by simpa using ‹¬ (rowP s wd i).1 = false›)
      have h' : ∀ r ∈ a ++ [(rowP s wd i).2.2], RwOk r := by
        intro r hr
        rcases List.mem_append.1 hr with hr | hr
        · exact h r hr
        · simp only [List.mem_cons, List.not_mem_nil, or_false] at hr; subst hr; exact hw
      split
      · exact rwF_ok s wd f _ _ (by omega) h'
      · exact h'
theorem form_ok (s : ByteArray) : ∀ r ∈ (formP s).2.2.rows, RwOk r := by
  unfold formP
  simp only
  split
  · intro r hr; simp at hr
  · rename_i h1
    have hin := sg_in s 59 (tev s) (by decide) (by simpa using h1)
    split
    · intro r hr; simp at hr
    · rename_i h2
      have hin2 := sg_in s 59 (tbg s) (by decide) (by simpa using h2)
      exact rwF_ok s (tev s) (s.size + 1 - (tbg s + 1)) (tbg s + 1) [] hin2 (fun r hr => by simp at hr)

theorem smQ_neg (x : Int) : smQ x = -1 ↔ x < 0 := by
  unfold smQ; split
  · simp [*]
  · constructor
    · intro h; omega
    · intro h; omega
theorem ld_eq (n : Nat) (hn : n ≤ 99) (cs : List Cl) : ldQ n cs = ldD n cs := by
  unfold ldQ ldD
  rw [firstB_congr (ldB n cs) (ldDB n cs)]
  intro j hj
  unfold ldB ldDB
  cases cs[j]? with
  | none => rfl
  | some c => simp only; rw [Bool.eq_iff_iff]; simp only [decide_eq_true_eq]; omega
theorem st_eq (R : List Rw) (hR : ∀ r ∈ R, RwOk r) (r : Rw) (hr : r.same = -1) (hr2 : byte r.text 0 ≠ 61) (i : Nat) : stQ R r.text i = stD R (dText r) i := by
  unfold stQ stD
  rw [firstB_congr (stB R r.text) (stDB R (dText r))]
  intro j hj
  unfold stB stDB
  cases hx : R[j]? with
  | none => rfl
  | some x =>
    simp only
    have hdr : dText r = r.text := by rw [dText, if_pos (by omega)]
    rcases hR x (List.mem_of_getElem? hx) with ⟨h1, h2⟩ | ⟨h1, h2⟩
    · rw [decide_eq_false (fun e => hr2 (by rw [← e]; exact h2)), decide_eq_false (by omega : ¬ x.same < 0)]; rfl
    · rw [decide_eq_true (by omega : x.same < 0), hdr, show dText x = x.text by rw [dText, if_pos (by omega)]]; rfl
theorem rg_sd (R : List Rw) (hR : ∀ r ∈ R, RwOk r) (hl : R.length ≤ 99) (i : Nat) (r : Rw) (hi : R[i]? = some r) : rgQ R i r = sdQ R i r := by
  have hil := (List.getElem?_eq_some_iff.1 hi).1
  unfold rgQ sdQ
  rcases hR r (List.mem_of_getElem? hi) with ⟨h1, h2⟩ | ⟨h1, h2⟩
  · rw [if_pos (by rw [Ne, smQ_neg]; omega), if_pos h1]
    have e : smQ r.same = min r.same 99 := by rw [smQ, if_neg (by omega)]
    by_cases hlt : r.same < i
    · rw [e, show min r.same 99 = r.same by omega, decide_eq_true hlt]
      simp only [Bool.true_and]
      cases R[r.same.toNat]? with
      | none => rfl
      | some x => simp only; rw [Bool.eq_iff_iff]; simp only [decide_eq_true_eq]; exact smQ_neg _
    · rw [e, decide_eq_false hlt, decide_eq_false (by omega)]; rfl
  · rw [if_neg (by rw [Ne, smQ_neg]; omega), if_neg (by omega), ld_eq _ hl, st_eq R hR r h1 h2]
theorem rgB_sdB (R : List Rw) (hR : ∀ r ∈ R, RwOk r) (hl : R.length ≤ 99) (i : Nat) : rgB R i = sdB R i := by
  unfold rgB sdB
  cases hx : R[i]? with
  | none => rfl
  | some r => simp only; rw [rg_sd R hR hl i r hx]

theorem load_eq (s : ByteArray) : ldE s = rdT s := by
  unfold ldE rdT
  split
  · rfl
  · split
    · rfl
    · split
      · rfl
      · rw [firstB_congr (rgB (formP s).2.2.rows) (sdB (formP s).2.2.rows) _ (fun j _ => rgB_sdB _ (form_ok s) (by omega) j)]
        cases firstB (sdB (formP s).2.2.rows) (formP s).2.2.rows.length <;> rfl
end Go.Proofs.Ytmolmbeeoecnfaa
