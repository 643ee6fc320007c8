/- Own work: the document's reader as plain functions: marks stand behind names; the whole text. -/
import Derived.Test.YtmolmbeeoecnfaaPure3
import Derived.Test.YtmolmbeeoecnfaaPenH
namespace Go.Proofs.Ytmolmbeeoecnfaa
open Go.RowKit Go.BigFrame
set_option linter.unusedVariables false
set_option linter.unusedSimpArgs false

/-- Every mark stands behind a name that was read. -/
def MaOk (p : Pn) : Prop := ∀ m ∈ p.ma, ∃ r ∈ p.re, r.name = m.name

theorem MaOk.nm {s : ByteArray} {p : Pn} (h : MaOk p) : MaOk (nmP s p) := by
  intro m hm
  obtain ⟨r, hr, e⟩ := h m hm
  refine ⟨r, ?_, e⟩
  simp only [nmP]
  split
  · exact List.mem_append_left _ hr
  · exact hr
theorem MaOk.cdF (s : ByteArray) : ∀ (f : Nat) (p : Pn) (a : ByteArray), MaOk p → MaOk (cdF s f p a).1
  | 0, _, _, h => h
  | f + 1, p, a, h => by
    simp only [Proofs.Ytmolmbeeoecnfaa.cdF]
    split
    · exact MaOk.cdF s f _ _ (MaOk.nm (p := { p with i := p.i + 1 }) h)
    · exact h
theorem MaOk.tr (s : ByteArray) (own : Nat) (p : Pn) (h : MaOk p) : MaOk (trP s own p) := by
  have h1 : MaOk (tr1 s p) := h
  have h2 : MaOk (tr2 s p) := MaOk.cdF s _ _ _ h1
  have h3 : MaOk (tr3 s (tr2 s p)) := h2
  have h4 : MaOk (nmP s (tr3 s (tr2 s p))) := h3.nm
  have h5 : MaOk (tr5 s (nmP s (tr3 s (tr2 s p))) (nmC s (tr3 s (tr2 s p)))) := by
    unfold tr5
    split
    · rename_i hm
      have hb := (isM_in s _ _ hm).1
      have hb' : tkB s 65 90 (tr3 s (tr2 s p)).i (tr3 s (tr2 s p)).bad < 0 := hb
      intro m hmm
      rcases List.mem_append.1 hmm with hmm | hmm
      · exact h4 m hmm
      · simp only [List.mem_cons, List.not_mem_nil, or_false] at hmm
        subst hmm
        refine ⟨⟨nmC s (tr3 s (tr2 s p)), (tr3 s (tr2 s p)).i⟩, ?_, rfl⟩
        show _ ∈ (nmP s (tr3 s (tr2 s p))).re
        simp only [nmP]
        rw [if_pos hb']
        exact List.mem_append_right _ (by simp)
    · exact h4
  exact h5
theorem MaOk.trF (s : ByteArray) (own : Nat) : ∀ (f : Nat) (p : Pn), MaOk p → MaOk (trF s own f p)
  | 0, _, h => h
  | f + 1, p, h => by
    simp only [Proofs.Ytmolmbeeoecnfaa.trF]
    split
    · exact MaOk.trF s own f _ (MaOk.tr s own p h)
    · exact h
theorem MaOk.inF (s : ByteArray) (g : Pn → Pn) (hg : ∀ q, MaOk q → MaOk (g q)) (fin : UInt8) (least : Nat) : ∀ (f n : Nat) (p : Pn), MaOk p → MaOk (inF s g fin least f n p)
  | 0, _, _, h => h
  | f + 1, n, p, h => by
    simp only [Proofs.Ytmolmbeeoecnfaa.inF]
    split
    · exact MaOk.inF s g hg fin least f _ _ (hg p h)
    · exact h
theorem MaOk.stF (s : ByteArray) : ∀ (f : Nat) (p : Pn) (up : Int) (depth : Nat), MaOk p → MaOk (stF s f p up depth)
  | 0, _, _, _, h => h
  | f + 1, p, up, depth, h => by
    simp only [Proofs.Ytmolmbeeoecnfaa.stF]
    split
    · exact h
    · have h4 : MaOk (st4 s p up depth) := h
      refine MaOk.trF s _ _ _ ?_
      show MaOk (st5 s _ _ _)
      unfold st5
      split
      · exact MaOk.inF s _ (fun q hq => MaOk.stF s f q _ _ hq) _ _ _ _ _ h4
      · split
        · exact MaOk.inF s _ (fun q hq => MaOk.stF s f q _ _ hq) _ _ _ _ _ h4
        · exact h4

/-- The reader ahead of the text. -/
def P0 : Pn := ⟨0, -1, [], [], [], []⟩
theorem P0_inv (s : ByteArray) : Inv s P0 := ⟨Nat.zero_le _, Nat.le_refl _, Nat.le_refl _, Nat.le_refl _, Nat.le_refl _⟩
/-- The reader behind the outermost state. -/
def rd (s : ByteArray) : Pn := stF s (s.size + 1) P0 (-1) 1
theorem rd_goes (s : ByteArray) : Goes s P0 (rd s) := stF_goes s (s.size + 1) P0 (-1) 1 (P0_inv s) (by decide) (by show s.size - 0 < _; omega)
theorem rd_ma (s : ByteArray) : MaOk (rd s) := MaOk.stF s _ _ _ _ (fun m hm => by cases hm)
/-- Where the text goes wrong, or -1. -/
def rdB (s : ByteArray) : Int := if (rd s).bad < 0 ∧ (rd s).i < s.size then (rd s).i else (rd s).bad
/-- Error and place. -/
def rdE (s : ByteArray) : Nat × Nat :=
  if 160 < s.size then (1, 0) else if 0 ≤ rdB s then (2, (rdB s).toNat) else flt (rd s).st (rd s).re (rd s).ma

end Go.Proofs.Ytmolmbeeoecnfaa
