/- Own work: the two readers agree: conditions, a transition. -/
import Derived.Test.YtmolmbeeoecnfaaUn
import Derived.Test.YtmolmbeeoecnfaaPen9
namespace Go.Proofs.Ytmolmbeeoecnfaa
open Go.RowKit
set_option linter.unusedVariables false
set_option linter.unusedSimpArgs false

def toR (x : StP) : StR := ⟨x.name, x.place, x.outer, x.depth, x.kind, x.end_, x.enter, x.leave⟩
def sgn (c : CdP) : UInt8 := if c.active then 38 else 33
def csStr (l : List CdP) : ByteArray := ⟨(l.flatMap fun c => [sgn c, c.name]).toArray⟩
def mkStr (m : UInt8) : ByteArray := if m = 0 then ⟨#[]⟩ else ⟨#[m]⟩
def toTr (t : TrQ) : TrR := ⟨t.own, t.event, csStr t.conds, t.tn, mkStr t.mark, t.acts⟩
def toRf (x : UInt8 × Nat) : RfR := ⟨x.1, x.2⟩
def cref (c : CdP) : UInt8 × Nat := (c.name, c.place)
def marksQ (t : TrQ) : List RfR := if t.mark = 0 then [] else [⟨t.tn, t.mp⟩]

theorem csStr_snoc (l : List CdP) (c : CdP) : csStr (l ++ [c]) = csStr l ++ ⟨#[sgn c, c.name]⟩ := by
  apply ByteArray.ext
  rw [ByteArray.data_append]
  apply Array.toList_inj.1
  simp [csStr]

theorem tkOk_isN (s : ByteArray) (i : Nat) : tkOk s 65 90 i = isN (byte s i) := by
  rw [Bool.eq_iff_iff]
  constructor
  · intro h; simp only [tkOk, Bool.and_eq_true, decide_eq_true_eq] at h; simp [isN, h.1.2, h.2]
  · intro h
    have := isN_b s i h
    simp only [isN, Bool.and_eq_true, decide_eq_true_eq] at h
    simp [tkOk, h.1, h.2, this]
theorem tkOk_isE (s : ByteArray) (i : Nat) : tkOk s 97 122 i = isE (byte s i) := by
  rw [Bool.eq_iff_iff]
  constructor
  · intro h; simp only [tkOk, Bool.and_eq_true, decide_eq_true_eq] at h; simp [isE, h.1.2, h.2]
  · intro h
    have := isE_b s i h
    simp only [isE, Bool.and_eq_true, decide_eq_true_eq] at h
    simp [tkOk, h.1, h.2, this]
theorem tkOk_isD (s : ByteArray) (i : Nat) : tkOk s 48 57 i = isD (byte s i) := by
  rw [Bool.eq_iff_iff]
  constructor
  · intro h; simp only [tkOk, Bool.and_eq_true, decide_eq_true_eq] at h; simp [isD, h.1.2, h.2]
  · intro h
    have := isD_in s i h
    simp only [isD, Bool.and_eq_true, decide_eq_true_eq] at h
    simp [tkOk, h.1, h.2, this]
theorem tkOk_one (s : ByteArray) (c : UInt8) (h0 : c ≠ 0) (i : Nat) : tkOk s c c i = (byte s i == c) := by
  rw [Bool.eq_iff_iff]
  constructor
  · intro h
    simp only [tkOk, Bool.and_eq_true, decide_eq_true_eq] at h
    rw [beq_iff_eq]
    exact UInt8.le_antisymm h.2 h.1.2
  · intro h
    rw [beq_iff_eq] at h
    have := sg_in s c i h0 h
    simp [tkOk, h, this]

theorem tk_yes {s : ByteArray} {lo hi : UInt8} {i : Nat} {bad : Int} (hb : bad < 0) (h : tkOk s lo hi i = true) : tkC s lo hi i bad = byte s i ∧ tkI s lo hi i bad = i + 1 ∧ tkB s lo hi i bad = bad := by
  have : ¬ 0 ≤ bad := by omega
  simp [tkC, tkI, tkB, this, h]
theorem tk_no {s : ByteArray} {lo hi : UInt8} {i : Nat} {bad : Int} (hb : bad < 0) (h : tkOk s lo hi i = false) : tkC s lo hi i bad = 0 ∧ tkI s lo hi i bad = i ∧ tkB s lo hi i bad = i := by
  have : ¬ 0 ≤ bad := by omega
  simp [tkC, tkI, tkB, this, h]
theorem tk_bad {s : ByteArray} {lo hi : UInt8} {i : Nat} {bad : Int} (hb : 0 ≤ bad) : tkC s lo hi i bad = 0 ∧ tkI s lo hi i bad = i ∧ tkB s lo hi i bad = bad := by simp [tkC, tkI, tkB, hb]
theorem ahd_good {s : ByteArray} {i : Nat} {bad : Int} (hb : bad < 0) : ahd s i bad = byte s i := by rw [ahd, if_pos hb]
theorem ahd_bad {s : ByteArray} {i : Nat} {bad : Int} (hb : 0 ≤ bad) : ahd s i bad = 0 := by rw [ahd, if_neg (by omega)]

theorem nm_yes {s : ByteArray} {p : Pn} (hb : p.bad < 0) (h : isN (byte s p.i) = true) : nmP s p = { p with i := p.i + 1, re := p.re ++ [⟨byte s p.i, p.i⟩] } ∧ nmC s p = byte s p.i := by
  obtain ⟨a, b, c⟩ := tk_yes (s := s) (lo := 65) (hi := 90) (i := p.i) hb (by rw [tkOk_isN]; exact h)
  have e : nmC s p = byte s p.i := a
  refine ⟨?_, e⟩
  rw [nmP, b, c, if_pos hb, e]
theorem nm_no {s : ByteArray} {p : Pn} (hb : p.bad < 0) (h : isN (byte s p.i) = false) : nmP s p = { p with bad := p.i } ∧ nmC s p = 0 := by
  obtain ⟨a, b, c⟩ := tk_no (s := s) (lo := 65) (hi := 90) (i := p.i) hb (by rw [tkOk_isN]; exact h)
  refine ⟨?_, a⟩
  rw [nmP, b, c, if_neg (by omega)]
theorem nm_bad {s : ByteArray} {p : Pn} (hb : 0 ≤ p.bad) : nmP s p = p ∧ nmC s p = 0 := by
  obtain ⟨a, b, c⟩ := tk_bad (s := s) (lo := 65) (hi := 90) (i := p.i) hb
  refine ⟨?_, a⟩
  rw [nmP, b, c, if_neg (by omega)]

theorem cdF_bad (s : ByteArray) (f : Nat) (p : Pn) (a : ByteArray) (hb : 0 ≤ p.bad) : cdF s f p a = (p, a) := by
  cases f with
  | zero => rfl
  | succ f => simp only [cdF]; rw [ahd_bad hb, if_neg (by decide)]

theorem cd_eq (s : ByteArray) : ∀ (f : Nat) (p : Pn) (l : List CdP) (R : List RfR), p.bad < 0 → p.re = R ++ (l.map cref).map toRf →
    ((rcF s f p.i l).1 = true → cdF s f p (csStr l) = ({ p with i := (rcF s f p.i l).2.1, re := R ++ ((rcF s f p.i l).2.2.map cref).map toRf }, csStr (rcF s f p.i l).2.2)) ∧
    ((rcF s f p.i l).1 = false → (cdF s f p (csStr l)).1.bad = (rcF s f p.i l).2.1)
  | 0, p, l, R, hb, hr => by
    simp only [rcF, cdF]
    exact ⟨fun _ => (by rw [← hr]), fun h => by cases h⟩
  | f + 1, p, l, R, hb, hr => by
    simp only [rcF, cdF]
    rw [ahd_good hb]
    by_cases hC : isC (byte s p.i) = true
    · rw [if_pos hC, if_pos hC]
      by_cases hN : isN (byte s (p.i + 1)) = true
      · rw [if_pos hN]
        obtain ⟨e1, e2⟩ := nm_yes (s := s) (p := { p with i := p.i + 1 }) hb hN
        rw [e1, e2]
        have hact : sgn ⟨byte s (p.i + 1), p.i + 1, -1, byte s p.i == 38⟩ = byte s p.i := by
          simp only [sgn]
          split
          · rename_i h; rw [beq_iff_eq] at h; exact h.symm
          · rename_i h
            rw [isC, Bool.or_eq_true] at hC
            rcases hC with h2 | h2
            · exact absurd h2 h
            · rw [beq_iff_eq] at h2; exact h2.symm
        have hs : csStr l ++ ⟨#[byte s p.i, byte s (p.i + 1)]⟩ = csStr (l ++ [⟨byte s (p.i + 1), p.i + 1, -1, byte s p.i == 38⟩]) := by rw [csStr_snoc, hact]
        have ih := cd_eq s f { p with i := p.i + 1 + 1, re := p.re ++ [⟨byte s (p.i + 1), p.i + 1⟩] } (l ++ [⟨byte s (p.i + 1), p.i + 1, -1, byte s p.i == 38⟩]) R hb (by simp only; rw [hr]; simp [cref, toRf])
        simp only at ih ⊢
        rw [hs]
        exact ih
      · have hN' : isN (byte s (p.i + 1)) = false := by simpa using hN
        rw [if_neg hN]
        obtain ⟨e1, e2⟩ := nm_no (s := s) (p := { p with i := p.i + 1 }) hb hN'
        rw [e1, cdF_bad s f _ _ (by simp only; omega)]
        exact ⟨fun h => (by cases h), fun _ => rfl⟩
    · rw [if_neg hC, if_neg hC]
      exact ⟨fun _ => (by rw [← hr]), fun h => by cases h⟩

theorem trZ_bad (s : ByteArray) (own : Nat) (ev : UInt8) (cds : ByteArray) (q : Pn) (hb : 0 ≤ q.bad) : (trZ s own ev cds q).bad = q.bad := by
  have h3 : (tr3 s q).bad = q.bad := (tk_bad hb).2.2
  have h4 := (nm_bad (s := s) (p := tr3 s q) (by rw [h3]; exact hb)).1
  show (tr5 s (nmP s (tr3 s q)) (nmC s (tr3 s q))).bad = q.bad
  rw [h4, tr5, if_neg (by rw [ahd_bad (by rw [h3]; exact hb)]; decide)]
  exact h3

theorem isM_eq (c : UInt8) : isM c = isMk c := rfl
theorem mkStr_rm (s : ByteArray) (i : Nat) : mkStr (rmC s i) = if isMk (byte s i) = true then ⟨#[byte s i]⟩ else ⟨#[]⟩ := by
  unfold rmC
  split
  · rename_i h
    rw [mkStr, if_neg]
    intro e
    rw [e] at h
    simp [isMk] at h
  · rfl

/-- A transition. -/
theorem tr_eq (s : ByteArray) (own : Nat) (p : Pn) (hb : p.bad < 0) (hi : p.i < s.size) :
    ((rtP s own p.i).1 = true → trP s own p = { p with i := (rtP s own p.i).2.1, tr := p.tr ++ [toTr (rtP s own p.i).2.2], re := p.re ++ (refsQ (rtP s own p.i).2.2).map toRf, ma := p.ma ++ marksQ (rtP s own p.i).2.2 }) ∧
    ((rtP s own p.i).1 = false → (trP s own p).bad = (rtP s own p.i).2.1) := by
  by_cases hE : isE (byte s (p.i + 1)) = true
  · have hE' : ¬ isE (byte s (p.i + 1)) = false := by simp [hE]
    obtain ⟨e1, e2, e3⟩ := tk_yes (s := s) (lo := 97) (hi := 122) (i := p.i + 1) hb (by rw [tkOk_isE]; exact hE)
    have h1 : tr1 s p = { p with i := p.i + 2 } := by rw [tr1, e2, e3]
    have hev : trE s p = byte s (p.i + 1) := e1
    have hc := cd_eq s (s.size - (p.i + 2)) { p with i := p.i + 2 } [] p.re hb (by simp)
    have hrc : rcF s (s.size - (p.i + 2)) (p.i + 2) [] = rcP s (p.i + 2) [] := rfl
    have hcd : cd s (tr1 s p) ⟨#[]⟩ = cdF s (s.size - (p.i + 2)) { p with i := p.i + 2 } (csStr []) := by rw [h1]; rfl
    simp only at hc
    rw [hrc] at hc
    by_cases hC : (rcP s (p.i + 2) []).1 = true
    · have hC' : ¬ (rcP s (p.i + 2) []).1 = false := by simp [hC]
      have hcy := hc.1 hC
      have h2 : tr2 s p = { p with i := (rcP s (p.i + 2) []).2.1, re := p.re ++ ((rcP s (p.i + 2) []).2.2.map cref).map toRf } := by rw [tr2, hcd, hcy]
      have hcs : trC s p = csStr (rcP s (p.i + 2) []).2.2 := by rw [trC, hcd, hcy]
      have hrt : rtP s own p.i = if byte s (rcP s (p.i + 2) []).2.1 ≠ 62 then (false, (rcP s (p.i + 2) []).2.1, ⟨0, 0, [], 0, 0, 0, 0, 0, ⟨#[]⟩⟩)
          else if isN (byte s ((rcP s (p.i + 2) []).2.1 + 1)) = false then (false, (rcP s (p.i + 2) []).2.1 + 1, ⟨0, 0, [], 0, 0, 0, 0, 0, ⟨#[]⟩⟩)
          else (true, dend s (rmI s ((rcP s (p.i + 2) []).2.1 + 2)), ⟨own, byte s (p.i + 1), (rcP s (p.i + 2) []).2.2, byte s ((rcP s (p.i + 2) []).2.1 + 1), (rcP s (p.i + 2) []).2.1 + 1, -1, rmC s ((rcP s (p.i + 2) []).2.1 + 2), (rcP s (p.i + 2) []).2.1 + 2, cut s (rmI s ((rcP s (p.i + 2) []).2.1 + 2)) (dend s (rmI s ((rcP s (p.i + 2) []).2.1 + 2)))⟩) := by
        rw [rtP, if_neg hE', if_neg hC']
      rw [hrt]
      clear hc hcy hrc hcd hrt
      generalize (rcP s (p.i + 2) []).2.1 = j at *
      generalize (rcP s (p.i + 2) []).2.2 = cl at *
      have hP : trP s own p = trZ s own (byte s (p.i + 1)) (csStr cl) { p with i := j, re := p.re ++ (cl.map cref).map toRf } := by rw [trP, hev, hcs, h2]
      rw [hP]
      by_cases h62 : byte s j = 62
      · rw [if_neg (fun h => h h62)]
        obtain ⟨f1, f2, f3⟩ := tk_yes (s := s) (lo := 62) (hi := 62) (i := j) hb (by rw [tkOk_one s 62 (by decide), h62]; rfl)
        have h3 : tr3 s { p with i := j, re := p.re ++ (cl.map cref).map toRf } = { p with i := j + 1, re := p.re ++ (cl.map cref).map toRf } := by
          show ({ p with i := tkI s 62 62 j p.bad, bad := tkB s 62 62 j p.bad, re := _ } : Pn) = _
          rw [f2, f3]
        by_cases hN : isN (byte s (j + 1)) = true
        · rw [if_neg (by simp [hN])]
          obtain ⟨g1, g2⟩ := nm_yes (s := s) (p := { p with i := j + 1, re := p.re ++ (cl.map cref).map toRf }) hb hN
          refine ⟨fun _ => ?_, fun h => by cases h⟩
          rw [trZ, h3, g1, g2]
          simp only
          have hah : ahd s (j + 1 + 1) p.bad = byte s (j + 2) := ahd_good hb
          by_cases hM : isMk (byte s (j + 2)) = true
          · have hrm : rmI s (j + 2) = j + 3 := by rw [rmI, if_pos hM]
            have hrc : rmC s (j + 2) = byte s (j + 2) := by rw [rmC, if_pos hM]
            have hne : byte s (j + 2) ≠ 0 := by intro e; rw [e] at hM; simp [isMk] at hM
            have h5 : tr5 s { p with i := j + 1 + 1, re := (p.re ++ (cl.map cref).map toRf) ++ [⟨byte s (j + 1), j + 1⟩] } (byte s (j + 1)) = { p with i := j + 3, re := (p.re ++ (cl.map cref).map toRf) ++ [⟨byte s (j + 1), j + 1⟩], ma := p.ma ++ [⟨byte s (j + 1), j + 2⟩] } := by
              rw [tr5, if_pos (by simp only; rw [hah]; exact hM)]
            have hM5 : trM s { p with i := j + 1 + 1, re := (p.re ++ (cl.map cref).map toRf) ++ [⟨byte s (j + 1), j + 1⟩] } = ⟨#[byte s (j + 2)]⟩ := by
              rw [trM, if_pos (by simp only; rw [hah]; exact hM)]
              simp only
              rw [hah]
            rw [h5, hM5, tr6]
            simp only [dgS, dgI, if_pos hb]
            rw [hrm, hrc]
            simp [toTr, refsQ, marksQ, hne, mkStr, toRf, cref, Function.comp_def]
          · have hrm : rmI s (j + 2) = j + 2 := by rw [rmI, if_neg hM]
            have hrc : rmC s (j + 2) = 0 := by rw [rmC, if_neg hM]
            have h5 : tr5 s { p with i := j + 1 + 1, re := (p.re ++ (cl.map cref).map toRf) ++ [⟨byte s (j + 1), j + 1⟩] } (byte s (j + 1)) = { p with i := j + 1 + 1, re := (p.re ++ (cl.map cref).map toRf) ++ [⟨byte s (j + 1), j + 1⟩] } := by
              rw [tr5, if_neg (by simp only; rw [hah]; exact hM)]
            have hM5 : trM s { p with i := j + 1 + 1, re := (p.re ++ (cl.map cref).map toRf) ++ [⟨byte s (j + 1), j + 1⟩] } = ⟨#[]⟩ := by
              rw [trM, if_neg (by simp only; rw [hah]; exact hM)]
            rw [h5, hM5, tr6]
            simp only [dgS, dgI, if_pos hb]
            rw [hrm, hrc]
            simp [toTr, refsQ, marksQ, mkStr, toRf, cref, Function.comp_def]
        · have hN' : isN (byte s (j + 1)) = false := by simpa using hN
          rw [if_pos hN']
          obtain ⟨g1, g2⟩ := nm_no (s := s) (p := { p with i := j + 1, re := p.re ++ (cl.map cref).map toRf }) hb hN'
          refine ⟨fun h => (by cases h), fun _ => ?_⟩
          show (tr5 s (nmP s (tr3 s _)) (nmC s (tr3 s _))).bad = _
          rw [h3, g1, tr5, if_neg (by rw [ahd_bad (by simp only; omega)]; decide)]
      · rw [if_pos h62]
        obtain ⟨f1, f2, f3⟩ := tk_no (s := s) (lo := 62) (hi := 62) (i := j) hb (by rw [tkOk_one s 62 (by decide)]; simpa using h62)
        have h3 : (tr3 s { p with i := j, re := p.re ++ (cl.map cref).map toRf }).bad = j := f3
        refine ⟨fun h => (by cases h), fun _ => ?_⟩
        show (tr5 s (nmP s (tr3 s _)) (nmC s (tr3 s _))).bad = _
        have h4 := (nm_bad (s := s) (p := tr3 s { p with i := j, re := p.re ++ (cl.map cref).map toRf }) (by rw [h3]; omega)).1
        rw [h4, tr5, if_neg (by rw [ahd_bad (by rw [h3]; omega)]; decide)]
        exact h3
    · have hC' : (rcP s (p.i + 2) []).1 = false := by simpa using hC
      have hcn := hc.2 hC'
      have h2 : (tr2 s p).bad = (rcP s (p.i + 2) []).2.1 := by rw [tr2, hcd]; exact hcn
      have hrt : rtP s own p.i = (false, (rcP s (p.i + 2) []).2.1, ⟨0, 0, [], 0, 0, 0, 0, 0, ⟨#[]⟩⟩) := by rw [rtP, if_neg hE', if_pos hC']
      rw [hrt]
      refine ⟨fun h => (by cases h), fun _ => ?_⟩
      rw [trP, trZ_bad s own _ _ _ (by rw [h2]; omega)]
      exact h2
  · have hE' : isE (byte s (p.i + 1)) = false := by simpa using hE
    obtain ⟨e1, e2, e3⟩ := tk_no (s := s) (lo := 97) (hi := 122) (i := p.i + 1) hb (by rw [tkOk_isE]; exact hE')
    have h1 : (tr1 s p).bad = ((p.i + 1 : Nat) : Int) := e3
    have hrt : rtP s own p.i = (false, p.i + 1, ⟨0, 0, [], 0, 0, 0, 0, 0, ⟨#[]⟩⟩) := by rw [rtP, if_pos hE']
    rw [hrt]
    refine ⟨fun h => (by cases h), fun _ => ?_⟩
    have h2 : tr2 s p = tr1 s p := by rw [tr2, cd, cdF_bad s _ _ _ (by rw [h1]; omega)]
    rw [trP, h2, trZ_bad s own _ _ _ (by rw [h1]; omega)]
    exact h1
end Go.Proofs.Ytmolmbeeoecnfaa
