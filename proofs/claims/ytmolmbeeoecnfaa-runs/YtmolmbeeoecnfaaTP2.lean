/- Own work: the plain mathematics of playing a table. -/
import Derived.Test.YtmolmbeeoecnfaaTE1
namespace Go.Proofs.Ytmolmbeeoecnfaa
set_option linter.unusedVariables false
set_option linter.unusedSimpArgs false

def colB (ev : ByteArray) (c : UInt8) (k : Nat) : Bool := decide (byte ev k = c)
def colP (ev : ByteArray) (c : UInt8) : Option Nat := firstB (colB ev c) ev.size
def cellsOf (R : List Rw) (n : Nat) : List Cl := match R[n]? with
  | none => []
  | some r => if 0 ≤ r.same then (match R[r.same.toNat]? with | some x => x.cells | none => []) else r.cells
def cellOf (R : List Rw) (n k : Nat) : Cl := ((cellsOf R n)[k]?).getD ⟨0, ⟨#[]⟩⟩
/-- What is put out and where, behind j events. -/
def runS (R : List Rw) (ev bg es : ByteArray) : Nat → ByteArray × Nat
  | 0 => (bg, 0)
  | j + 1 => match colP ev (byte es j) with
    | none => ((runS R ev bg es j).1 ++ ⟨#[46]⟩, (runS R ev bg es j).2)
    | some k => ((runS R ev bg es j).1 ++ ⟨#[46]⟩ ++ (cellOf R (runS R ev bg es j).2 k).acts, (cellOf R (runS R ev bg es j).2 k).dst)

theorem colP_lt {ev : ByteArray} {c : UInt8} {k : Nat} (h : colP ev c = some k) : k < ev.size ∧ byte ev k = c := by
  rcases firstB_spec (colB ev c) ev.size with ⟨h1, -⟩ | ⟨m, h1, h2, h3, -⟩
  · rw [colP, h1] at h; cases h
  · rw [colP, h1] at h; cases h; exact ⟨h2, by simpa [colB] using h3⟩

/-- Small actions. -/
def ActOk (m : Nat) (r : Rw) : Prop := ∀ c ∈ r.cells, c.acts.size ≤ m
theorem cellP_act (s : ByteArray) (i : Nat) (hi : i ≤ s.size) : (cellP s i).2.2.acts.size ≤ s.size := by
  unfold cellP
  split
  · exact Nat.zero_le _
  · rename_i h1
    have hb := nend_bd s i (by simpa using h1)
    split
    · exact Nat.zero_le _
    · rename_i h2
      have h3 := sg_in s 58 (nend s i) (by decide) (by simpa using h2)
      have h4 := dend_le s (nend s i + 1) h3
      show (cut s (nend s i + 1) (dend s (nend s i + 1))).size ≤ s.size
      rw [cut_size s (nend s i + 1) (dend s (nend s i + 1)) (dend_ge s _) h4]
      omega
theorem clF_act (s : ByteArray) : ∀ (n i : Nat) (a : List Cl), i ≤ s.size → (∀ c ∈ a, c.acts.size ≤ s.size) → ∀ c ∈ (clF s n i a).2.2, c.acts.size ≤ s.size
  | 0, i, a, _, h => h
  | n + 1, i, a, hi, h => by
    simp only [clF]
    split
    · exact h
    · rename_i h1
      have hj : i ≤ clJ a i ∧ clJ a i ≤ s.size := by
        unfold clJ
        by_cases e : a = []
        · rw [if_pos e]; omega
        · rw [if_neg e]
          have h2 : byte s i = 44 := Classical.byContradiction fun h => h1 ⟨e, h⟩
          have := sg_in s 44 i (by decide) h2
          omega
      have hc := cellP_bd s _ hj.2
      split
      · exact h
      · refine clF_act s n _ _ hc.2.1 ?_
        intro c hm
        rcases List.mem_append.1 hm with hm | hm
        · exact h c hm
        · simp only [List.mem_cons, List.not_mem_nil, or_false] at hm; subst hm; exact cellP_act s _ hj.2
theorem rowP_act (s : ByteArray) (wd i : Nat) (hi : i ≤ s.size) : ActOk s.size (rowP s wd i).2.2 := by
  unfold rowP
  simp only
  split
  · split
    · intro c hc; simp at hc
    · split
      · intro c hc; simp at hc
      · intro c hc; simp at hc
  · split
    · intro c hc; simp at hc
    · split
      · intro c hc; simp at hc
      · exact clF_act s wd i [] hi (fun c hc => by simp at hc)
theorem rwF_act (s : ByteArray) (wd : Nat) : ∀ (f i : Nat) (a : List Rw), i ≤ s.size → (∀ r ∈ a, ActOk s.size r) → ∀ r ∈ (rwF s wd f i a).2.2, ActOk s.size r
  | 0, i, a, hi, h => h
  | f + 1, i, a, hi, h => by
    have hb := rowP_bd s wd i hi
    simp only [rwF]
    split
    · exact h
    · have h' : ∀ r ∈ a ++ [(rowP s wd i).2.2], ActOk s.size r := by
        intro r hr
        rcases List.mem_append.1 hr with hr | hr
        · exact h r hr
        · simp only [List.mem_cons, List.not_mem_nil, or_false] at hr; subst hr; exact rowP_act s wd i hi
      split
      · exact rwF_act s wd f _ _ (by omega) h'
      · exact h'
theorem form_act (s : ByteArray) : ∀ r ∈ (formP s).2.2.rows, ActOk s.size r := by
  unfold formP
  simp only
  split
  · intro r hr; simp at hr
  · rename_i h1
    have hin := sg_in s 59 (tev s) (by decide) (by simpa using h1)
    split
    · intro r hr; simp at hr
    · rename_i h2
      have hin2 := sg_in s 59 (tbg s) (by decide) (by simpa using h2)
      exact rwF_act s (tev s) (s.size + 1 - (tbg s + 1)) (tbg s + 1) [] hin2 (fun r hr => by simp at hr)
theorem form_bg (s : ByteArray) : (formP s).2.2.begin_.size ≤ s.size := by
  unfold formP
  simp only
  split
  · exact Nat.zero_le _
  · rename_i h1
    have hin := sg_in s 59 (tev s) (by decide) (by simpa using h1)
    split
    · exact Nat.zero_le _
    · have h2 := dend_le s (tev s + 1) hin
      have h3 : tbg s ≤ s.size := h2
      have h4 : tev s + 1 ≤ tbg s := dend_ge s _
      show (cut s (tev s + 1) (tbg s)).size ≤ s.size
      rw [cut_size s (tev s + 1) (tbg s) h4 h3]
      omega
theorem rwF_ne (s : ByteArray) (wd : Nat) : ∀ (f i : Nat) (a : List Rw), (rwF s wd f i a).1 = true → 0 < (rwF s wd f i a).2.2.length
  | 0, i, a, h => by cases h
  | f + 1, i, a, h => by
    simp only [rwF] at h ⊢
    split at h
    · cases h
    · rename_i h1
      rw [if_neg h1]
      split at h
      · rename_i h2
        rw [if_pos h2]
        exact rwF_ne s wd f _ _ h
      · rename_i h2
        rw [if_neg h2]
        simp
theorem form_ne (s : ByteArray) (h : (formP s).1 = true) : 0 < (formP s).2.2.rows.length := by
  revert h
  unfold formP
  simp only
  split
  · intro h; cases h
  · split
    · intro h; cases h
    · exact rwF_ne s _ _ _ _

/-- A table that is right. -/
structure TbOk (R : List Rw) (wd m : Nat) : Prop where
  ne : 0 < R.length
  le : R.length ≤ 99
  row : ∀ (i : Nat) (r : Rw), R[i]? = some r → (0 ≤ r.same ∧ r.same < i ∧ ∃ x, R[r.same.toNat]? = some x ∧ x.same = -1) ∨ (r.same = -1 ∧ r.cells.length = wd ∧ ∀ c ∈ r.cells, c.dst < R.length ∧ c.acts.size ≤ m)

theorem ld_all {n : Nat} {cs : List Cl} (h : ldD n cs = true) : ∀ c ∈ cs, c.dst < n := by
  intro c hc
  obtain ⟨k, hk⟩ := List.mem_iff_getElem?.1 hc
  have hkl := (List.getElem?_eq_some_iff.1 hk).1
  rcases firstB_spec (ldDB n cs) cs.length with ⟨-, h2⟩ | ⟨m, h1, -⟩
  · have := h2 k hkl
    simp [ldDB, hk] at this
    omega
  · rw [ldD, h1] at h; cases h

theorem tbOk_of (s : ByteArray) (h1 : (formP s).1 = true) (h2 : (formP s).2.2.rows.length ≤ 99) (h3 : ∀ i, sdB (formP s).2.2.rows i = false) : TbOk (formP s).2.2.rows (formP s).2.2.events.size s.size where
  ne := form_ne s h1
  le := h2
  row := by
    intro i r hr
    have h4 := h3 i
    have hwd := form_wd s r (List.mem_of_getElem? hr)
    have hok := form_ok s
    have hact := form_act s r (List.mem_of_getElem? hr)
    simp only [sdB, hr, Bool.not_eq_false'] at h4
    unfold sdQ at h4
    by_cases hs : 0 ≤ r.same
    · left
      rw [if_pos hs, Bool.and_eq_true, decide_eq_true_eq] at h4
      refine ⟨hs, h4.1, ?_⟩
      cases hx : (formP s).2.2.rows[r.same.toNat]? with
      | none => rw [hx] at h4; exact absurd h4.2 (by simp)
      | some x =>
        rw [hx] at h4
        refine ⟨x, rfl, ?_⟩
        have h5 : x.same < 0 := by simpa using h4.2
        rcases hok x (List.mem_of_getElem? hx) with h6 | h6
        · omega
        · exact h6.1
    · right
      rw [if_neg hs, Bool.and_eq_true] at h4
      rcases hwd with h | h
      · omega
      · exact ⟨h.1, h.2, fun c hc => ⟨ld_all h4.1 c hc, hact c hc⟩⟩

section
variable {R : List Rw} {wd m : Nat}
theorem TbOk.cells (h : TbOk R wd m) {n : Nat} (hn : n < R.length) : (cellsOf R n).length = wd ∧ ∀ c ∈ cellsOf R n, c.dst < R.length ∧ c.acts.size ≤ m := by
  unfold cellsOf
  rw [List.getElem?_eq_getElem hn]
  simp only
  rcases h.row n _ (List.getElem?_eq_getElem hn) with ⟨h1, h2, x, h3, h4⟩ | ⟨h1, h2, h3⟩
  · rw [if_pos h1, h3]
    simp only
    rcases h.row _ _ h3 with ⟨h5, -⟩ | ⟨-, h6, h7⟩
    · omega
    · exact ⟨h6, h7⟩
  · rw [if_neg (by omega)]
    exact ⟨h2, h3⟩
theorem TbOk.cell (h : TbOk R wd m) {n k : Nat} (hn : n < R.length) (hk : k < wd) : (cellsOf R n)[k]? = some (cellOf R n k) ∧ (cellOf R n k).dst < R.length ∧ (cellOf R n k).acts.size ≤ m := by
  obtain ⟨h1, h2⟩ := h.cells hn
  have h3 : (cellsOf R n)[k]? = some (cellsOf R n)[k] := List.getElem?_eq_getElem (by omega)
  have h4 : cellOf R n k = (cellsOf R n)[k] := by rw [cellOf, h3]; rfl
  rw [h4]
  exact ⟨h3, h2 _ (List.getElem_mem _)⟩
theorem TbOk.run {ev : ByteArray} (h : TbOk R ev.size m) (bg es : ByteArray) : ∀ j, (runS R ev bg es j).2 < R.length ∧ (runS R ev bg es j).1.size ≤ bg.size + j * (m + 1)
  | 0 => ⟨h.ne, by simp [runS]⟩
  | j + 1 => by
    have ih := h.run bg es j
    have hj : (j + 1) * (m + 1) = j * (m + 1) + (m + 1) := by rw [Nat.add_mul, Nat.one_mul]
    simp only [runS]
    cases hc : colP ev (byte es j) with
    | none =>
      simp only [ByteArray.size_append]
      have e : (ByteArray.mk #[46]).size = 1 := rfl
      exact ⟨ih.1, by omega⟩
    | some k =>
      have hk := colP_lt hc
      have h5 := h.cell ih.1 hk.1
      simp only [ByteArray.size_append]
      have e : (ByteArray.mk #[46]).size = 1 := rfl
      exact ⟨h5.2.1, by omega⟩
end
end Go.Proofs.Ytmolmbeeoecnfaa
