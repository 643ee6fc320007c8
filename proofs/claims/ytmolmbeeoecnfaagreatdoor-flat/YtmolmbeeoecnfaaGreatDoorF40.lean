/- Own work: EqZ. -/
import Derived.Test.YtmolmbeeoecnfaaGreatDoorF12
import Derived.Test.YtmolmbeeoecnfaaGreatDoorF39
/- Own work: the two readers agree: conditions, a transition. -/
namespace Go.Proofs.YtmolmbeeoecnfaaGreatDoor
open Go.RowKit
set_option linter.unusedVariables false
set_option linter.unusedSimpArgs false

def toR (x : StP) : StR := ⟨x.name, x.place, x.outer, x.depth, x.kind, x.end_, x.enter, x.leave⟩
def sgn (c : CdP) : UInt8 := if c.active then 38 else 33
def csStr (l : List CdP) : ByteArray := ⟨(l.flatMap fun c => [sgn c, c.name]).toArray⟩
def mkStr (m : UInt8) : ByteArray := if m = 0 then ⟨#[]⟩ else ⟨#[m]⟩
def toTr (t : TrQ) : TrR := ⟨t.own, t.event, csStr t.conds, t.tn, mkStr t.mark, t.acts⟩
def toRf (x : UInt8 × Nat) : RfR := ⟨x.1, x.2⟩
def cref (c : CdP) : UInt8 × Nat := (c.name, c.place)
def marksQ (t : TrQ) : List RfR := if t.mark = 0 then [] else [⟨t.tn, t.mp⟩]

theorem csStr_snoc (l : List CdP) (c : CdP) : csStr (l ++ [c]) = csStr l ++ ⟨#[sgn c, c.name]⟩ := by
 apply ByteArray.ext
 rw [ByteArray.data_append]
 apply Array.toList_inj.1
 simp [csStr]

theorem tkOk_isN (s : ByteArray) (i : Nat) : tkOk s 65 90 i = isN (byte s i) := by
 rw [Bool.eq_iff_iff]
 constructor
 ·intro h; simp only [tkOk, Bool.and_eq_true, decide_eq_true_eq] at h; simp [isN, h.1.2, h.2]
 ·intro h
  have := isN_b s i h
  simp only [isN, Bool.and_eq_true, decide_eq_true_eq] at h
  simp [tkOk, h.1, h.2, this]
theorem tkOk_isE (s : ByteArray) (i : Nat) : tkOk s 97 122 i = isE (byte s i) := by
 rw [Bool.eq_iff_iff]
 constructor
 ·intro h; simp only [tkOk, Bool.and_eq_true, decide_eq_true_eq] at h; simp [isE, h.1.2, h.2]
 ·intro h
  have := isE_b s i h
  simp only [isE, Bool.and_eq_true, decide_eq_true_eq] at h
  simp [tkOk, h.1, h.2, this]
theorem tkOk_isD (s : ByteArray) (i : Nat) : tkOk s 48 57 i = isD (byte s i) := by
 rw [Bool.eq_iff_iff]
 constructor
 ·intro h; simp only [tkOk, Bool.and_eq_true, decide_eq_true_eq] at h; simp [isD, h.1.2, h.2]
 ·intro h
  have := isD_in s i h
  simp only [isD, Bool.and_eq_true, decide_eq_true_eq] at h
  simp [tkOk, h.1, h.2, this]
theorem tkOk_one (s : ByteArray) (c : UInt8) (h0 : c ≠ 0) (i : Nat) : tkOk s c c i = (byte s i == c) := by
 rw [Bool.eq_iff_iff]
 constructor
 ·intro h
  simp only [tkOk, Bool.and_eq_true, decide_eq_true_eq] at h
  rw [beq_iff_eq]
  exact UInt8.le_antisymm h.2 h.1.2
 ·intro h
  rw [beq_iff_eq] at h
  have := sg_in s c i h0 h
  simp [tkOk, h, this]

theorem tk_yes {s : ByteArray} {lo hi : UInt8} {i : Nat} {bad : Int} (hb : bad < 0) (h : tkOk s lo hi i = true) : tkC s lo hi i bad = byte s i ∧ tkI s lo hi i bad = i + 1 ∧ tkB s lo hi i bad = bad := by
 have : ¬ 0 ≤ bad := by omega
 simp [tkC, tkI, tkB, this, h]
theorem tk_no {s : ByteArray} {lo hi : UInt8} {i : Nat} {bad : Int} (hb : bad < 0) (h : tkOk s lo hi i = false) : tkC s lo hi i bad = 0 ∧ tkI s lo hi i bad = i ∧ tkB s lo hi i bad = i := by
 have : ¬ 0 ≤ bad := by omega
 simp [tkC, tkI, tkB, this, h]
theorem tk_bad {s : ByteArray} {lo hi : UInt8} {i : Nat} {bad : Int} (hb : 0 ≤ bad) : tkC s lo hi i bad = 0 ∧ tkI s lo hi i bad = i ∧ tkB s lo hi i bad = bad := by simp [tkC, tkI, tkB, hb]
theorem ahd_good {s : ByteArray} {i : Nat} {bad : Int} (hb : bad < 0) : ahd s i bad = byte s i := by rw [ahd, if_pos hb]
theorem ahd_bad {s : ByteArray} {i : Nat} {bad : Int} (hb : 0 ≤ bad) : ahd s i bad = 0 := by rw [ahd, if_neg (by omega)]

theorem nm_yes {s : ByteArray} {p : Pn} (hb : p.bad < 0) (h : isN (byte s p.i) = true) : nmP s p = { p with i := p.i + 1, re := p.re ++ [⟨byte s p.i, p.i⟩] } ∧ nmC s p = byte s p.i := by
 obtain ⟨a, b, c⟩ := tk_yes (s := s) (lo := 65) (hi := 90) (i := p.i) hb (by rw [tkOk_isN]; exact h)
 have e : nmC s p = byte s p.i := a
 refine ⟨?_, e⟩
 rw [nmP, b, c, if_pos hb, e]
theorem nm_no {s : ByteArray} {p : Pn} (hb : p.bad < 0) (h : isN (byte s p.i) = false) : nmP s p = { p with bad := p.i } ∧ nmC s p = 0 := by
 obtain ⟨a, b, c⟩ := tk_no (s := s) (lo := 65) (hi := 90) (i := p.i) hb (by rw [tkOk_isN]; exact h)
 refine ⟨?_, a⟩
 rw [nmP, b, c, if_neg (by omega)]
theorem nm_bad {s : ByteArray} {p : Pn} (hb : 0 ≤ p.bad) : nmP s p = p ∧ nmC s p = 0 := by
 obtain ⟨a, b, c⟩ := tk_bad (s := s) (lo := 65) (hi := 90) (i := p.i) hb
 refine ⟨?_, a⟩
 rw [nmP, b, c, if_neg (by omega)]

theorem cdF_bad (s : ByteArray) (f : Nat) (p : Pn) (a : ByteArray) (hb : 0 ≤ p.bad) : cdF s f p a = (p, a) := by
 cases f with
 | zero => rfl
 | succ f => simp only [cdF]; rw [ahd_bad hb, if_neg (by decide)]

theorem cd_eq (s : ByteArray) : ∀ (f : Nat) (p : Pn) (l : List CdP) (R : List RfR), p.bad < 0 → p.re = R ++ (l.map cref).map toRf →
  ((rcF s f p.i l).1 = true → cdF s f p (csStr l) = ({ p with i := (rcF s f p.i l).2.1, re := R ++ ((rcF s f p.i l).2.2.map cref).map toRf }, csStr (rcF s f p.i l).2.2)) ∧
  ((rcF s f p.i l).1 = false → (cdF s f p (csStr l)).1.bad = (rcF s f p.i l).2.1)
 | 0, p, l, R, hb, hr => by
  simp only [rcF, cdF]
  exact ⟨fun _ => (by rw [← hr]), fun h => by cases h⟩
 | f + 1, p, l, R, hb, hr => by
  simp only [rcF, cdF]
  rw [ahd_good hb]
  by_cases hC : isC (byte s p.i) = true
  ·rw [if_pos hC, if_pos hC]
   by_cases hN : isN (byte s (p.i + 1)) = true
   ·rw [if_pos hN]
    obtain ⟨e1, e2⟩ := nm_yes (s := s) (p := { p with i := p.i + 1 }) hb hN
    rw [e1, e2]
    have hact : sgn ⟨byte s (p.i + 1), p.i + 1, -1, byte s p.i == 38⟩ = byte s p.i := by
     simp only [sgn]
     split
     ·rename_i h; rw [beq_iff_eq] at h; exact h.symm
     ·rename_i h
      rw [isC, Bool.or_eq_true] at hC
      rcases hC with h2 | h2
      ·exact absurd h2 h
      ·rw [beq_iff_eq] at h2; exact h2.symm
    have hs : csStr l ++ ⟨#[byte s p.i, byte s (p.i + 1)]⟩ = csStr (l ++ [⟨byte s (p.i + 1), p.i + 1, -1, byte s p.i == 38⟩]) := by rw [csStr_snoc, hact]
    have ih := cd_eq s f { p with i := p.i + 1 + 1, re := p.re ++ [⟨byte s (p.i + 1), p.i + 1⟩] } (l ++ [⟨byte s (p.i + 1), p.i + 1, -1, byte s p.i == 38⟩]) R hb (by simp only; rw [hr]; simp [cref, toRf])
    simp only at ih ⊢
    rw [hs]
    exact ih
   ·have hN' : isN (byte s (p.i + 1)) = false := by simpa using hN
    rw [if_neg hN]
    obtain ⟨e1, e2⟩ := nm_no (s := s) (p := { p with i := p.i + 1 }) hb hN'
    rw [e1, cdF_bad s f _ _ (by simp only; omega)]
    exact ⟨fun h => (by cases h), fun _ => rfl⟩
  ·rw [if_neg hC, if_neg hC]
   exact ⟨fun _ => (by rw [← hr]), fun h => by cases h⟩

theorem trZ_bad (s : ByteArray) (own : Nat) (ev : UInt8) (cds : ByteArray) (q : Pn) (hb : 0 ≤ q.bad) : (trZ s own ev cds q).bad = q.bad := by
 have h3 : (tr3 s q).bad = q.bad := (tk_bad hb).2.2
 have h4 := (nm_bad (s := s) (p := tr3 s q) (by rw [h3]; exact hb)).1
 show (tr5 s (nmP s (tr3 s q)) (nmC s (tr3 s q))).bad = q.bad
 rw [h4, tr5, if_neg (by rw [ahd_bad (by rw [h3]; exact hb)]; decide)]
 exact h3

theorem tr_eq (s : ByteArray) (own : Nat) (p : Pn) (hb : p.bad < 0) (hi : p.i < s.size) :
    ((rtP s own p.i).1 = true → trP s own p = { p with i := (rtP s own p.i).2.1, tr := p.tr ++ [toTr (rtP s own p.i).2.2], re := p.re ++ (refsQ (rtP s own p.i).2.2).map toRf, ma := p.ma ++ marksQ (rtP s own p.i).2.2 }) ∧
    ((rtP s own p.i).1 = false → (trP s own p).bad = (rtP s own p.i).2.1) := by
  by_cases hE : isE (byte s (p.i + 1)) = true
  · have hE' : ¬ isE (byte s (p.i + 1)) = false := by simp [hE]
    obtain ⟨e1, e2, e3⟩ := tk_yes (s := s) (lo := 97) (hi := 122) (i := p.i + 1) hb (by rw [tkOk_isE]; exact hE)
    have h1 : tr1 s p = { p with i := p.i + 2 } := by rw [tr1, e2, e3]
    have hev : trE s p = byte s (p.i + 1) := e1
    have hc := cd_eq s (s.size - (p.i + 2)) { p with i := p.i + 2 } [] p.re hb (by simp)
    have hrc : rcF s (s.size - (p.i + 2)) (p.i + 2) [] = rcP s (p.i + 2) [] := rfl
    have hcd : cd s (tr1 s p) ⟨#[]⟩ = cdF s (s.size - (p.i + 2)) { p with i := p.i + 2 } (csStr []) := by rw [h1]; rfl
    simp only at hc
    rw [hrc] at hc
    by_cases hC : (rcP s (p.i + 2) []).1 = true
    · have hC' : ¬ (rcP s (p.i + 2) []).1 = false := by simp [hC]
      have hcy := hc.1 hC
      have h2 : tr2 s p = { p with i := (rcP s (p.i + 2) []).2.1, re := p.re ++ ((rcP s (p.i + 2) []).2.2.map cref).map toRf } := by rw [tr2, hcd, hcy]
      have hcs : trC s p = csStr (rcP s (p.i + 2) []).2.2 := by rw [trC, hcd, hcy]
      have hrt : rtP s own p.i = if byte s (rcP s (p.i + 2) []).2.1 ≠ 62 then (false, (rcP s (p.i + 2) []).2.1, ⟨0, 0, [], 0, 0, 0, 0, 0, ⟨#[]⟩⟩)
          else if isN (byte s ((rcP s (p.i + 2) []).2.1 + 1)) = false then (false, (rcP s (p.i + 2) []).2.1 + 1, ⟨0, 0, [], 0, 0, 0, 0, 0, ⟨#[]⟩⟩)
          else (true, dend s (rmI s ((rcP s (p.i + 2) []).2.1 + 2)), ⟨own, byte s (p.i + 1), (rcP s (p.i + 2) []).2.2, byte s ((rcP s (p.i + 2) []).2.1 + 1), (rcP s (p.i + 2) []).2.1 + 1, -1, rmC s ((rcP s (p.i + 2) []).2.1 + 2), (rcP s (p.i + 2) []).2.1 + 2, cut s (rmI s ((rcP s (p.i + 2) []).2.1 + 2)) (dend s (rmI s ((rcP s (p.i + 2) []).2.1 + 2)))⟩) := by
        rw [rtP, if_neg hE', if_neg hC']
      rw [hrt]
      clear hc hcy hrc hcd hrt
      generalize (rcP s (p.i + 2) []).2.1 = j at *
      generalize (rcP s (p.i + 2) []).2.2 = cl at *
      have hP : trP s own p = trZ s own (byte s (p.i + 1)) (csStr cl) { p with i := j, re := p.re ++ (cl.map cref).map toRf } := by rw [trP, hev, hcs, h2]
      rw [hP]
      by_cases h62 : byte s j = 62
      · rw [if_neg (fun h => h h62)]
        obtain ⟨f1, f2, f3⟩ := tk_yes (s := s) (lo := 62) (hi := 62) (i := j) hb (by rw [tkOk_one s 62 (by decide), h62]; rfl)
        have h3 : tr3 s { p with i := j, re := p.re ++ (cl.map cref).map toRf } = { p with i := j + 1, re := p.re ++ (cl.map cref).map toRf } := by
          show ({ p with i := tkI s 62 62 j p.bad, bad := tkB s 62 62 j p.bad, re := _ } : Pn) = _
          rw [f2, f3]
        by_cases hN : isN (byte s (j + 1)) = true
        · rw [if_neg (by simp [hN])]
          obtain ⟨g1, g2⟩ := nm_yes (s := s) (p := { p with i := j + 1, re := p.re ++ (cl.map cref).map toRf }) hb hN
          refine ⟨fun _ => ?_, fun h => by cases h⟩
          rw [trZ, h3, g1, g2]
          simp only
          have hah : ahd s (j + 1 + 1) p.bad = byte s (j + 2) := ahd_good hb
          by_cases hM : isMk (byte s (j + 2)) = true
          · have hrm : rmI s (j + 2) = j + 3 := by rw [rmI, if_pos hM]
            have hrc : rmC s (j + 2) = byte s (j + 2) := by rw [rmC, if_pos hM]
            have hne : byte s (j + 2) ≠ 0 := by intro e; rw [e] at hM; simp [isMk] at hM
            have h5 : tr5 s { p with i := j + 1 + 1, re := (p.re ++ (cl.map cref).map toRf) ++ [⟨byte s (j + 1), j + 1⟩] } (byte s (j + 1)) = { p with i := j + 3, re := (p.re ++ (cl.map cref).map toRf) ++ [⟨byte s (j + 1), j + 1⟩], ma := p.ma ++ [⟨byte s (j + 1), j + 2⟩] } := by
              rw [tr5, if_pos (by simp only; rw [hah]; exact hM)]
            have hM5 : trM s { p with i := j + 1 + 1, re := (p.re ++ (cl.map cref).map toRf) ++ [⟨byte s (j + 1), j + 1⟩] } = ⟨#[byte s (j + 2)]⟩ := by
              rw [trM, if_pos (by simp only; rw [hah]; exact hM)]
              simp only
              rw [hah]
            rw [h5, hM5, tr6]
            simp only [dgS, dgI, if_pos hb]
            rw [hrm, hrc]
            simp [toTr, refsQ, marksQ, hne, mkStr, toRf, cref, Function.comp_def]
          · have hrm : rmI s (j + 2) = j + 2 := by rw [rmI, if_neg hM]
            have hrc : rmC s (j + 2) = 0 := by rw [rmC, if_neg hM]
            have h5 : tr5 s { p with i := j + 1 + 1, re := (p.re ++ (cl.map cref).map toRf) ++ [⟨byte s (j + 1), j + 1⟩] } (byte s (j + 1)) = { p with i := j + 1 + 1, re := (p.re ++ (cl.map cref).map toRf) ++ [⟨byte s (j + 1), j + 1⟩] } := by
              rw [tr5, if_neg (by simp only; rw [hah]; exact hM)]
            have hM5 : trM s { p with i := j + 1 + 1, re := (p.re ++ (cl.map cref).map toRf) ++ [⟨byte s (j + 1), j + 1⟩] } = ⟨#[]⟩ := by
              rw [trM, if_neg (by simp only; rw [hah]; exact hM)]
            rw [h5, hM5, tr6]
            simp only [dgS, dgI, if_pos hb]
            rw [hrm, hrc]
            simp [toTr, refsQ, marksQ, mkStr, toRf, cref, Function.comp_def]
        · have hN' : isN (byte s (j + 1)) = false := by simpa using hN
          rw [if_pos hN']
          obtain ⟨g1, g2⟩ := nm_no (s := s) (p := { p with i := j + 1, re := p.re ++ (cl.map cref).map toRf }) hb hN'
          refine ⟨fun h => (by cases h), fun _ => ?_⟩
          show (tr5 s (nmP s (tr3 s _)) (nmC s (tr3 s _))).bad = _
          rw [h3, g1, tr5, if_neg (by rw [ahd_bad (by simp only; omega)]; decide)]
      · rw [if_pos h62]
        obtain ⟨f1, f2, f3⟩ := tk_no (s := s) (lo := 62) (hi := 62) (i := j) hb (by rw [tkOk_one s 62 (by decide)]; simpa using h62)
        have h3 : (tr3 s { p with i := j, re := p.re ++ (cl.map cref).map toRf }).bad = j := f3
        refine ⟨fun h => (by cases h), fun _ => ?_⟩
        show (tr5 s (nmP s (tr3 s _)) (nmC s (tr3 s _))).bad = _
        have h4 := (nm_bad (s := s) (p := tr3 s { p with i := j, re := p.re ++ (cl.map cref).map toRf }) (by rw [h3]; omega)).1
        rw [h4, tr5, if_neg (by rw [ahd_bad (by rw [h3]; omega)]; decide)]
        exact h3
    · have hC' : (rcP s (p.i + 2) []).1 = false := by simpa using hC
      have hcn := hc.2 hC'
      have h2 : (tr2 s p).bad = (rcP s (p.i + 2) []).2.1 := by rw [tr2, hcd]; exact hcn
      have hrt : rtP s own p.i = (false, (rcP s (p.i + 2) []).2.1, ⟨0, 0, [], 0, 0, 0, 0, 0, ⟨#[]⟩⟩) := by rw [rtP, if_neg hE', if_pos hC']
      rw [hrt]
      refine ⟨fun h => (by cases h), fun _ => ?_⟩
      rw [trP, trZ_bad s own _ _ _ (by rw [h2]; omega)]
      exact h2
  · have hE' : isE (byte s (p.i + 1)) = false := by simpa using hE
    obtain ⟨e1, e2, e3⟩ := tk_no (s := s) (lo := 97) (hi := 122) (i := p.i + 1) hb (by rw [tkOk_isE]; exact hE')
    have h1 : (tr1 s p).bad = ((p.i + 1 : Nat) : Int) := e3
    have hrt : rtP s own p.i = (false, p.i + 1, ⟨0, 0, [], 0, 0, 0, 0, 0, ⟨#[]⟩⟩) := by rw [rtP, if_pos hE']
    rw [hrt]
    refine ⟨fun h => (by cases h), fun _ => ?_⟩
    have h2 : tr2 s p = tr1 s p := by rw [tr2, cd, cdF_bad s _ _ _ (by rw [h1]; omega)]
    rw [trP, h2, trZ_bad s own _ _ _ (by rw [h1]; omega)]
    exact h1
end Go.Proofs.YtmolmbeeoecnfaaGreatDoor

/- Own work: the two readers agree: states, the whole text. -/
namespace Go.Proofs.YtmolmbeeoecnfaaGreatDoor
open Go.RowKit
set_option linter.unusedVariables false
set_option linter.unusedSimpArgs false

structure Mt (p : Pn) (r : Rn) : Prop where
 i : p.i = r.i
 bad : p.bad < 0
 st : p.st = r.st.map toR
 tr : p.tr = r.tr.map toTr
 re : p.re = (r.tr.flatMap refsQ).map toRf
 ma : p.ma = r.tr.flatMap marksQ
def Ag (P : Pn) (q : Bool × Rn) : Prop := (q.1 = true → Mt P q.2) ∧ (q.1 = false → P.bad = (q.2.i : Int))

theorem trF_bad (s : ByteArray) (own f : Nat) (p : Pn) (hb : 0 ≤ p.bad) : trF s own f p = p := by
 cases f with
 | zero => rfl
 | succ f => simp only [trF]; rw [ahd_bad hb, if_neg (by decide)]

theorem trF_eq (s : ByteArray) (own : Nat) : ∀ (f : Nat) (p : Pn) (r : Rn), Mt p r → Ag (trF s own f p) (rtF s own f r)
 | 0, p, r, h => ⟨fun _ => h, fun e => (by cases e)⟩
 | f + 1, p, r, h => by
  simp only [trF, rtF]
  rw [ahd_good h.bad, h.i]
  by_cases h47 : byte s r.i = 47
  ·rw [if_pos h47, if_pos h47]
   have hi := sg_in s 47 r.i (by decide) h47
   have ht := tr_eq s own p h.bad (by rw [h.i]; exact hi)
   rw [h.i] at ht
   by_cases hok : (rtP s own r.i).1 = true
   ·rw [if_pos hok]
    refine trF_eq s own f _ _ ?_
    rw [ht.1 hok]
    refine ⟨rfl, h.bad, h.st, ?_, ?_, ?_⟩
    ·simp only; rw [h.tr]; simp
    ·simp only; rw [h.re]; simp
    ·simp only; rw [h.ma]; simp
   ·have hok' : (rtP s own r.i).1 = false := by simpa using hok
    rw [if_neg hok]
    have hb := ht.2 hok'
    refine ⟨fun e => (by cases e), fun _ => ?_⟩
    rw [trF_bad s own f _ (by rw [hb]; omega)]
    exact hb
  ·rw [if_neg h47, if_neg h47]
   exact ⟨fun _ => h, fun e => (by cases e)⟩
theorem trL_eq (s : ByteArray) (own : Nat) (p : Pn) (r : Rn) (h : Mt p r) : Ag (trL s own p) (rtL s own r) := by
 unfold trL rtL
 rw [h.i]
 exact trF_eq s own _ p r h

theorem tkP_bad (s : ByteArray) (lo hi : UInt8) (p : Pn) (hb : 0 ≤ p.bad) : (tkP s lo hi p).bad = p.bad := (tk_bad hb).2.2
theorem tkP_yes (s : ByteArray) (lo hi : UInt8) (p : Pn) (hb : p.bad < 0) (h : tkOk s lo hi p.i = true) : tkP s lo hi p = { p with i := p.i + 1 } := by
 obtain ⟨-, e2, e3⟩ := tk_yes (s := s) hb h
 rw [tkP, e2, e3]
theorem tkP_no (s : ByteArray) (lo hi : UInt8) (p : Pn) (hb : p.bad < 0) (h : tkOk s lo hi p.i = false) : (tkP s lo hi p).bad = p.i := (tk_no (s := s) hb h).2.2

def riEnd (s : ByteArray) (fin : UInt8) (least : Nat) (q : Bool × Nat × Rn) : Bool × Rn :=
 if q.1 = false then (false, q.2.2) else if q.2.1 < least ∨ byte s q.2.2.i ≠ fin then (false, q.2.2) else (true, { q.2.2 with i := q.2.2.i + 1 })
theorem riP_end (s : ByteArray) (g : Rn → Bool × Rn) (fin : UInt8) (least : Nat) (r : Rn) : riP s g fin least r = riEnd s fin least (riL s g 0 { r with i := r.i + 1 }) := rfl

theorem inL_eq (s : ByteArray) (G : Pn → Pn) (g : Rn → Bool × Rn) (fin : UInt8) (hfin : isN fin = false) (h0 : fin ≠ 0) (least m : Nat)
  (hG : ∀ q, Inv s q → q.bad < 0 → m ≤ q.i → Goes s q (G q)) (hg : ∀ q, RdInv s q → m ≤ q.i → (g q).1 = true → GoesR s q (g q).2)
  (hA : ∀ p r, Mt p r → Inv s p → RdInv s r → m ≤ r.i → Ag (G p) (g r)) (hN0 : ∀ r, isN (byte s r.i) = false → g r = (false, r)) :
  ∀ (d n : Nat) (p : Pn) (r : Rn), s.size - r.i ≤ d → Mt p r → Inv s p → RdInv s r → m ≤ r.i → Ag (tkP s fin fin (inL s G fin least n p)) (riEnd s fin least (riL s g n r)) := by
 intro d
 induction d with
 | zero =>
  intro n p r hd h hI hR hm
  have hNf : isN (byte s r.i) = false := by
   cases e : isN (byte s r.i)
   ·rfl
   ·have := isN_b s r.i e; omega
  rw [riL_stop s g n r hNf]
  have hbf : byte s r.i ≠ fin := fun e => by have := sg_in s fin r.i h0 e; omega
  have hgo : p.bad < 0 ∧ (n < least ∨ ahd s p.i p.bad ≠ fin) := ⟨h.bad, Or.inr (by rw [ahd_good h.bad, h.i]; exact hbf)⟩
  rw [inL_go s G fin least m n hG p hI (by rw [h.i]; exact hm) hgo]
  have hb := (hA p r h hI hR hm).2 (by rw [hN0 r hNf])
  rw [hN0 r hNf] at hb
  have hb' : (G p).bad = (r.i : Int) := hb
  rw [inL_stop s G fin least (n + 1) (G p) (fun e => by omega)]
  unfold riEnd
  rw [if_neg (by simp), if_pos (Or.inr hbf)]
  exact ⟨fun e => (by cases e), fun _ => by rw [tkP_bad s _ _ _ (by rw [hb']; omega)]; exact hb'⟩
 | succ d ih =>
  intro n p r hd h hI hR hm
  by_cases hN : isN (byte s r.i) = true
  ·have hbf : byte s r.i ≠ fin := fun e => by rw [e, hfin] at hN; cases hN
   have hgo : p.bad < 0 ∧ (n < least ∨ ahd s p.i p.bad ≠ fin) := ⟨h.bad, Or.inr (by rw [ahd_good h.bad, h.i]; exact hbf)⟩
   have hin := isN_b s r.i hN
   rw [inL_go s G fin least m n hG p hI (by rw [h.i]; exact hm) hgo]
   have hAg := hA p r h hI hR hm
   have hGo := hG p hI h.bad (by rw [h.i]; exact hm)
   by_cases hok : (g r).1 = true
   ·rw [riL_go s g m n hg r hR hm hN hok]
    have hq := hg r hR hm hok
    have := hq.i
    exact ih (n + 1) (G p) (g r).2 (by omega) (hAg.1 hok) hGo.inv hq.inv (by omega)
   ·have hok' : (g r).1 = false := by simpa using hok
    rw [riL_bad s g n r hN hok']
    have hb := hAg.2 hok'
    rw [inL_stop s G fin least (n + 1) (G p) (fun e => by omega)]
    unfold riEnd
    rw [if_pos rfl]
    exact ⟨fun e => (by cases e), fun _ => by rw [tkP_bad s _ _ _ (by rw [hb]; omega)]; exact hb⟩
  ·have hNf : isN (byte s r.i) = false := by simpa using hN
   rw [riL_stop s g n r hNf]
   unfold riEnd
   rw [if_neg (by simp)]
   by_cases hc : n < least ∨ byte s r.i ≠ fin
   ·have hgo : p.bad < 0 ∧ (n < least ∨ ahd s p.i p.bad ≠ fin) := ⟨h.bad, by rw [ahd_good h.bad, h.i]; exact hc⟩
    rw [inL_go s G fin least m n hG p hI (by rw [h.i]; exact hm) hgo]
    have hb := (hA p r h hI hR hm).2 (by rw [hN0 r hNf])
    rw [hN0 r hNf] at hb
    have hb' : (G p).bad = (r.i : Int) := hb
    rw [inL_stop s G fin least (n + 1) (G p) (fun e => by omega), if_pos hc]
    exact ⟨fun e => (by cases e), fun _ => by rw [tkP_bad s _ _ _ (by rw [hb']; omega)]; exact hb'⟩
   ·rw [inL_stop s G fin least n p (fun e => hc (by have := e.2; rw [ahd_good h.bad, h.i] at this; exact this)), if_neg hc]
    have hb : byte s r.i = fin := by
     by_cases e : byte s r.i = fin
     ·exact e
     ·exact absurd (Or.inr e) hc
    rw [tkP_yes s fin fin p h.bad (by rw [tkOk_one s fin h0, h.i, hb]; simp)]
    exact ⟨fun _ => ⟨by simp only; rw [h.i], h.bad, h.st, h.tr, h.re, h.ma⟩, fun e => (by cases e)⟩

theorem inP_eq (s : ByteArray) (G : Pn → Pn) (g : Rn → Bool × Rn) (fin : UInt8) (hfin : isN fin = false) (h0 : fin ≠ 0) (least : Nat) (p : Pn) (r : Rn) (h : Mt p r) (hI : Inv s p) (hR : RdInv s r) (hn : r.i < s.size)
  (hG : ∀ q, Inv s q → q.bad < 0 → r.i + 1 ≤ q.i → Goes s q (G q)) (hg : ∀ q, RdInv s q → r.i + 1 ≤ q.i → (g q).1 = true → GoesR s q (g q).2)
  (hA : ∀ p' r', Mt p' r' → Inv s p' → RdInv s r' → r.i + 1 ≤ r'.i → Ag (G p') (g r')) (hN0 : ∀ r, isN (byte s r.i) = false → g r = (false, r)) :
  Ag (inP s G fin least p) (riP s g fin least r) := by
 rw [riP_end, inP]
 refine inL_eq s G g fin hfin h0 least (r.i + 1) hG hg hA hN0 s.size 0 _ _ (Nat.sub_le _ _) ⟨by simp only; rw [h.i], h.bad, h.st, h.tr, h.re, h.ma⟩ (hI.to _ _ (by simp) (by rw [h.i]; exact hn)) ⟨hn, ?_, ?_⟩ (Nat.le_refl _)
 ·have := hR.2.1; simp only; omega
 ·have := hR.2.2; simp only; omega

theorem cut_cons (s : ByteArray) (i : Nat) (h : isD (byte s i) = true) : (⟨#[byte s i]⟩ : ByteArray) ++ cut s (i + 1) (dend s (i + 1)) = cut s i (dend s i) := by
 obtain ⟨hi, he⟩ := dend_go s i h
 have hge := dend_ge s (i + 1)
 apply ByteArray.ext
 rw [ByteArray.data_append]
 apply Array.toList_inj.1
 rw [he]
 unfold cut
 simp only [Array.toList_append]
 have e1 : s.data.toList.drop i = s[i] :: s.data.toList.drop (i + 1) := by
  rw [List.drop_eq_getElem_cons (by simpa using hi)]
  rfl
 rw [e1, show dend s (i + 1) - i = (dend s (i + 1) - (i + 1)) + 1 by omega, List.take_succ_cons, byte_in s i hi]
 rfl

theorem ac_bad (s : ByteArray) (sg : UInt8) (h0 : sg ≠ 0) (p : Pn) (hb : 0 ≤ p.bad) : acP s sg p = p ∧ acS s sg p.i p.bad = ⟨#[]⟩ := by
 have hg : acGo s sg p.i p.bad = false := by rw [acGo, ahd_bad hb]; simp; exact fun e => h0 e.symm
 have hg' : ¬ acGo s sg p.i p.bad = true := by simp [hg]
 exact ⟨by rw [acP, acI, acB, if_neg hg', if_neg hg'], by rw [acS, if_neg hg']⟩
theorem ac_eq (s : ByteArray) (sg : UInt8) (h0 : sg ≠ 0) (p : Pn) (hb : p.bad < 0) :
  (abK s sg p.i = true → acP s sg p = { p with i := abI s sg p.i } ∧ acS s sg p.i p.bad = abS s sg p.i) ∧ (abK s sg p.i = false → (acP s sg p).bad = (abI s sg p.i : Int)) := by
 by_cases e : byte s p.i = sg
 ·have hg : acGo s sg p.i p.bad = true := by rw [acGo, ahd_good hb, e]; simp
  rw [abK, if_pos e, abI, if_pos e, abS, if_pos e, acP, acI, if_pos hg, acB, if_pos hg, acS, if_pos hg]
  by_cases hd : isD (byte s (p.i + 1)) = true
  ·obtain ⟨a1, a2, a3⟩ := tk_yes (s := s) (lo := 48) (hi := 57) (i := p.i + 1) hb (by rw [tkOk_isD]; exact hd)
   obtain ⟨-, he⟩ := dend_go s (p.i + 1) hd
   refine ⟨fun _ => ?_, fun h => by rw [hd] at h; cases h⟩
   rw [a1, a2, a3]
   simp only [dgS, dgI, if_pos hb]
   exact ⟨by rw [he], cut_cons s (p.i + 1) hd⟩
  ·have hd' : isD (byte s (p.i + 1)) = false := by simpa using hd
   obtain ⟨a1, a2, a3⟩ := tk_no (s := s) (lo := 48) (hi := 57) (i := p.i + 1) hb (by rw [tkOk_isD]; exact hd')
   refine ⟨fun h => absurd h hd, fun _ => ?_⟩
   rw [dend_stop s (p.i + 1) hd']
   exact a3
 ·have hg : ¬ acGo s sg p.i p.bad = true := by rw [acGo, ahd_good hb]; simpa using e
  rw [abK, if_neg e, abI, if_neg e, abS, if_neg e, acP, acI, if_neg hg, acB, if_neg hg, acS, if_neg hg]
  exact ⟨fun _ => ⟨rfl, rfl⟩, fun h => (by cases h)⟩

theorem modify_last {α : Type} (g : α → α) (x : α) : ∀ (l : List α), (l ++ [x]).modify l.length g = l ++ [g x]
 | [] => by simp
 | y :: l => by simp [modify_last g x l]
theorem map_modify {α β : Type} (f : α → β) (g : α → α) (g' : β → β) (h : ∀ x, f (g x) = g' (f x)) : ∀ (l : List α) (k : Nat), (l.modify k g).map f = (l.map f).modify k g'
 | [], _ => by simp
 | x :: l, 0 => by simp [h]
 | x :: l, k + 1 => by simp [map_modify f g g' h l k]

theorem st_bad (s : ByteArray) (g : Pn → Pn) (own : Nat) (q : Pn) (hb : 0 ≤ q.bad) : (trL s own (st6 own (st5 s g own q))).bad = q.bad := by
 have h5 : st5 s g own q = q := by rw [st5, ahd_bad hb, if_neg (by decide), if_neg (by decide)]
 rw [h5, trL, trF_bad s own _ _ (by exact hb)]
 rfl

theorem st_eq (s : ByteArray) : ∀ (f : Nat) (p : Pn) (r : Rn) (up : Int) (d : Nat), Mt p r → Inv s p → RdInv s r → s.size - r.i < f → Ag (stF s f p up d) (rsF s f r up d)
 | 0, p, r, up, d, h, hI, hR, hf => by omega
 | f + 1, p, r, up, d, h, hI, hR, hf => by
  have hlen : p.st.length = r.st.length := by rw [h.st]; simp
  simp only [stF, rsF]
  by_cases hN : isN (byte s r.i) = true
  ·have hin := isN_b s r.i hN
   have hN' : ¬ isN (byte s r.i) = false := by simp [hN]
   have hok : tkOk s 65 90 p.i = true := by rw [tkOk_isN, h.i]; exact hN
   have hp1 := tkP_yes s 65 90 p h.bad hok
   rw [if_neg hN', if_neg (by rw [hp1]; simp only; have := h.bad; omega), hlen]
   have ha := ac_eq s 43 (by decide) (tkP s 65 90 p) (by rw [hp1]; exact h.bad)
   have e1 : (tkP s 65 90 p).i = r.i + 1 := by rw [hp1]; simp only; rw [h.i]
   rw [e1] at ha
   by_cases h43 : abK s 43 (r.i + 1) = true
   ·rw [if_neg (by simp [h43])]
    obtain ⟨b1, b2⟩ := ha.1 h43
    have b1' : acP s 43 (tkP s 65 90 p) = { p with i := abI s 43 (r.i + 1) } := by rw [b1, hp1]
    have hc := ac_eq s 45 (by decide) (acP s 43 (tkP s 65 90 p)) (by rw [b1']; exact h.bad)
    have e2 : (acP s 43 (tkP s 65 90 p)).i = abI s 43 (r.i + 1) := by rw [b1']
    rw [e2] at hc
    by_cases h45 : abK s 45 (abI s 43 (r.i + 1)) = true
    ·rw [if_neg (by simp [h45])]
     obtain ⟨c1, c2⟩ := hc.1 h45
     have h3 : st3 s p = { p with i := abI s 45 (abI s 43 (r.i + 1)) } := by rw [st3, c1, b1']
     have hx : stX s p up d = ⟨byte s r.i, r.i, up, d, 0, 0, abS s 43 (r.i + 1), abS s 45 (abI s 43 (r.i + 1))⟩ := by
      rw [stX, (tk_yes (s := s) h.bad hok).1, e1, e2, b2, c2, h.i]
     have hI4 : Inv s (st4 s p up d) := by
      have h1 := tkP_inv hI 65 90
      have h2 := acP_inv h1.1 43 (by decide)
      have h3' := acP_inv h2.1 45 (by decide)
      obtain ⟨a1, a2, a3, a4, a5⟩ := h3'.1
      refine ⟨a1, ?_, a3, a4, a5⟩
      have l1 := h2.2
      have l2 : (acP s 43 (tkP s 65 90 p)).i ≤ (st3 s p).i := h3'.2
      have := hI.st
      show (p.st ++ [_]).length ≤ (st3 s p).i
      rw [List.length_append]
      simp only [List.length_cons, List.length_nil]
      have := h.i
      omega
     have hM4 : Mt (st4 s p up d) (rs3 s r.st.length (rs1 s r up d)) := by
      refine ⟨?_, ?_, ?_, ?_, ?_, ?_⟩
      ·show (st3 s p).i = _; rw [h3]; rfl
      ·show (st3 s p).bad < 0; rw [h3]; exact h.bad
      ·show (st3 s p).st ++ [stX s p up d] = _
       rw [h3, hx, h.st]
       show _ = (((r.st ++ [_]).modify r.st.length _).modify r.st.length _).map toR
       rw [modify_last, modify_last]
       simp [toR]
       exact ⟨rfl, rfl⟩
      ·show (st3 s p).tr = _; rw [h3]; exact h.tr
      ·show (st3 s p).re = _; rw [h3]; exact h.re
      ·show (st3 s p).ma = _; rw [h3]; exact h.ma
     have hR3 : RdInv s (rs3 s r.st.length (rs1 s r up d)) := by
      have b1 := abI_bd s 43 (r.i + 1) (by decide) hin
      have b2 := abI_bd s 45 (abI s 43 (r.i + 1)) (by decide) b1.2
      obtain ⟨a1, a2, a3⟩ := hR
      refine ⟨b2.2, ?_, ?_⟩
      ·show (((r.st ++ [_]).modify _ _).modify _ _).length ≤ abI s 45 (abI s 43 (r.i + 1))
       simp only [List.length_modify, List.length_append, List.length_cons, List.length_nil]
       omega
      ·show r.tr.length ≤ abI s 45 (abI s 43 (r.i + 1))
       omega
     have hi3 : r.i + 1 ≤ (rs3 s r.st.length (rs1 s r up d)).i := by
      have b1 := abI_bd s 43 (r.i + 1) (by decide) hin
      have b2 := abI_bd s 45 (abI s 43 (r.i + 1)) (by decide) b1.2
      show r.i + 1 ≤ abI s 45 (abI s 43 (r.i + 1))
      omega
     generalize st4 s p up d = p4 at *
     generalize rs3 s r.st.length (rs1 s r up d) = r3 at *
     have hG : ∀ q, Inv s q → q.bad < 0 → r3.i + 1 ≤ q.i → Goes s q (stF s f q (r.st.length : Nat) (d + 1)) := fun q hq hqb hqi => stF_goes s f q _ _ hq hqb (by omega)
     have hg : ∀ q, RdInv s q → r3.i + 1 ≤ q.i → (rsF s f q (r.st.length : Nat) (d + 1)).1 = true → GoesR s q (rsF s f q (r.st.length : Nat) (d + 1)).2 := fun q hq hqi hqk => rsF_goes s f q _ _ hq (by omega) hqk
     have hN0 : ∀ q, isN (byte s q.i) = false → r3.i + 1 ≤ s.size → rsF s f q (r.st.length : Nat) (d + 1) = (false, q) := by
      intro q hq hlt
      cases f with
      | zero => omega
      | succ f => simp only [rsF]; rw [if_pos hq]
     have hA : ∀ p' r', Mt p' r' → Inv s p' → RdInv s r' → r3.i + 1 ≤ r'.i → Ag (stF s f p' (r.st.length : Nat) (d + 1)) (rsF s f r' (r.st.length : Nat) (d + 1)) := fun p' r' hm hi hr hl => st_eq s f p' r' _ _ hm hi hr (by omega)
     have h5 : Ag (st5 s (fun q => stF s f q (r.st.length : Nat) (d + 1)) r.st.length p4) (rs4 s (fun q => rsF s f q (r.st.length : Nat) (d + 1)) r.st.length r3) := by
      have hK : ∀ k, Mt (setK p4 r.st.length k) (setKP r3 r.st.length k) := fun k => ⟨hM4.i, hM4.bad, by
       show p4.st.modify _ _ = (r3.st.modify _ _).map toR
       rw [map_modify toR _ (fun x => { x with kind := k }) (fun _ => rfl), hM4.st], hM4.tr, hM4.re, hM4.ma⟩
      have hRK : ∀ k, RdInv s (setKP r3 r.st.length k) := fun k => ⟨hR3.1, by simp [setKP]; exact hR3.2.1, hR3.2.2⟩
      unfold st5 rs4
      rw [ahd_good hM4.bad, hM4.i]
      by_cases e40 : byte s r3.i = 40
      ·have hlt := sg_in s 40 r3.i (by decide) e40
       rw [if_pos e40, if_pos e40]
       exact inP_eq s _ _ 41 (by decide) (by decide) 1 _ _ (hK 1) (setK_inv hI4 _ _) (hRK 1) hlt hG hg hA (fun q hq => hN0 q hq hlt)
      ·rw [if_neg e40, if_neg e40]
       by_cases e91 : byte s r3.i = 91
       ·have hlt := sg_in s 91 r3.i (by decide) e91
        rw [if_pos e91, if_pos e91]
        exact inP_eq s _ _ 93 (by decide) (by decide) 2 _ _ (hK 2) (setK_inv hI4 _ _) (hRK 2) hlt hG hg hA (fun q hq => hN0 q hq hlt)
       ·rw [if_neg e91, if_neg e91]
        exact ⟨fun _ => hM4, fun e => (by cases e)⟩
     generalize st5 s (fun q => stF s f q (r.st.length : Nat) (d + 1)) r.st.length p4 = p5 at *
     generalize rs4 s (fun q => rsF s f q (r.st.length : Nat) (d + 1)) r.st.length r3 = q4 at *
     unfold rs5
     by_cases hok4 : q4.1 = false
     ·rw [if_pos hok4]
      have hb := h5.2 hok4
      refine ⟨fun e => (by rw [hok4] at e; cases e), fun _ => ?_⟩
      rw [trL, trF_bad s _ _ _ (by show 0 ≤ p5.bad; rw [hb]; omega)]
      exact hb
     ·rw [if_neg hok4]
      have hM5 := h5.1 (by simpa using hok4)
      refine trL_eq s r.st.length _ _ ⟨hM5.i, hM5.bad, ?_, hM5.tr, hM5.re, hM5.ma⟩
      show p5.st.modify _ _ = (q4.2.st.modify _ _).map toR
      have hl5 : p5.st.length = q4.2.st.length := by rw [hM5.st]; simp
      rw [map_modify toR _ (fun x => { x with end_ := q4.2.st.length }) (fun _ => rfl), hM5.st]
      simp
    ·have h45' : abK s 45 (abI s 43 (r.i + 1)) = false := by simpa using h45
     rw [if_pos h45']
     have hb : (st3 s p).bad = (abI s 45 (abI s 43 (r.i + 1)) : Int) := hc.2 h45'
     refine ⟨fun e => (by cases e), fun _ => ?_⟩
     rw [st_bad s _ _ _ (by show 0 ≤ (st3 s p).bad; rw [hb]; omega)]
     exact hb
   ·have h43' : abK s 43 (r.i + 1) = false := by simpa using h43
    rw [if_pos h43']
    have hb0 := ha.2 h43'
    have hb : (st3 s p).bad = (abI s 43 (r.i + 1) : Int) := by
     rw [st3, (ac_bad s 45 (by decide) _ (by rw [hb0]; omega)).1]; exact hb0
    refine ⟨fun e => (by cases e), fun _ => ?_⟩
    rw [st_bad s _ _ _ (by show 0 ≤ (st3 s p).bad; rw [hb]; omega)]
    exact hb
  ·have hNf : isN (byte s r.i) = false := by simpa using hN
   have hb := tkP_no s 65 90 p h.bad (by rw [tkOk_isN, h.i]; exact hNf)
   rw [if_pos hNf, if_pos (by rw [hb]; omega)]
   exact ⟨fun e => (by cases e), fun _ => by rw [hb, h.i]⟩
end Go.Proofs.YtmolmbeeoecnfaaGreatDoor

/- Own work: the two answers of Check are one. -/
namespace Go.Proofs.YtmolmbeeoecnfaaGreatDoor
open Go.RowKit
set_option linter.unusedVariables false
set_option linter.unusedSimpArgs false

theorem rd_eq (s : ByteArray) : Ag (rd s) (rcR s) :=
 st_eq s (s.size + 1) P0 R0 (-1) 1 ⟨rfl, by decide, rfl, rfl, rfl, rfl⟩ (P0_inv s) ⟨Nat.zero_le _, Nat.le_refl _, Nat.le_refl _⟩ (by show s.size - 0 < _; omega)

theorem isNm_map (st : List StP) (c : UInt8) (k : Nat) : isNm (st.map toR) c k = isNmP st c k := by
 simp only [isNm, isNmP, List.getElem?_map]
 cases st[k]? <;> rfl
theorem idx_map (st : List StP) (c : UInt8) : idx (st.map toR) c = idxP st c := by
 unfold idx idxP
 rw [List.length_map, firstB_congr _ _ _ (fun j _ => isNm_map st c j)]
 cases firstB (isNmP st c) st.length <;> rfl
theorem stAt_map (st : List StP) (k : Nat) : stAt (st.map toR) k = plAt st k := by
 simp only [stAt, plAt, List.getElem?_map]
 cases st[k]? <;> rfl
theorem dp_map (st : List StP) : firstB (dpB (st.map toR)) (st.map toR).length = firstB (dpP st) st.length := by
 rw [List.length_map]
 refine firstB_congr _ _ _ (fun j _ => ?_)
 simp only [dpB, dpP, List.getElem?_map]
 cases st[j]? <;> rfl
theorem tw_map (st : List StP) : firstB (twB (st.map toR)) (st.map toR).length = firstB (twP st) st.length := by
 rw [List.length_map]
 refine firstB_congr _ _ _ (fun j _ => ?_)
 simp only [twB, twP, List.getElem?_map]
 cases st[j]? with
 | none => rfl
 | some x => simp only [Option.map_some]; rw [show (toR x).name = x.name from rfl, idx_map]

theorem firstB_find {α : Type} (l : List α) (P : α → Bool) (Q : Nat → Bool) (hQ : ∀ k x, l[k]? = some x → Q k = P x) :
  (firstB Q l.length = none ∧ l.find? P = none) ∨ ∃ k x, firstB Q l.length = some k ∧ l[k]? = some x ∧ l.find? P = some x := by
 rcases firstB_spec Q l.length with ⟨h1, h2⟩ | ⟨k, h1, h2, h3, h4⟩
 ·refine Or.inl ⟨h1, List.find?_eq_none.2 ?_⟩
  intro x hx
  obtain ⟨i, hi⟩ := List.mem_iff_getElem?.1 hx
  have := h2 i (List.getElem?_eq_some_iff.1 hi).1
  rw [hQ i x hi] at this
  simp [this]
 ·have hx : l[k]? = some l[k] := List.getElem?_eq_getElem h2
  refine Or.inr ⟨k, l[k], h1, hx, ?_⟩
  conv => lhs; rw [split_at hx]
  refine find_at P _ _ _ ?_ (by rw [← hQ k _ hx]; exact h3)
  intro y hy
  obtain ⟨i, hi⟩ := List.mem_iff_getElem?.1 hy
  rw [List.getElem?_take] at hi
  split at hi
  ·rw [← hQ i y hi]; exact h4 i ‹_›
  ·cases hi

theorem kd_map (st : List StP) (c : UInt8) (h : ¬ idxP st c < 0) : kd (st.map toR) c = kdP st (idxP st c) := by
 have h' : ¬ idx (st.map toR) c < 0 := by rw [idx_map]; exact h
 obtain ⟨k, x, e1, e2, e3, -⟩ := idx_some (st.map toR) c h'
 rw [idx_map] at e1
 rw [e3, e1, kdP, Int.toNat_natCast]
 rw [List.getElem?_map] at e2
 cases hs : st[k]? with
 | none => rw [hs] at e2; cases e2
 | some y => rw [hs] at e2; simp at e2; rw [← e2]; rfl

theorem marks_find (st : List StP) : ∀ (tr : List TrQ), (∀ t ∈ tr, ¬ idxP st t.tn < 0) →
  (tr.flatMap marksQ).find? (fun m => !(kd (st.map toR) m.name == 1)) = ((tr.map (resQ st)).find? (badM st)).map fun t => ⟨t.tn, t.mp⟩
 | [], _ => rfl
 | t :: tr, h => by
  have ih := marks_find st tr (fun u hu => h u (List.mem_cons_of_mem _ hu))
  have hk := kd_map st t.tn (h t (List.mem_cons_self ..))
  simp only [List.flatMap_cons, List.map_cons]
  rw [List.find?_append, ih]
  by_cases hm : t.mark = 0
  ·have hb : badM st (resQ st t) = false := by simp [badM, resQ, hm]
   rw [marksQ, if_pos hm, List.find?_cons, hb]
   rfl
  ·rw [marksQ, if_neg hm]
   by_cases hk1 : kdP st (idxP st t.tn) = 1
   ·have hb : badM st (resQ st t) = false := by simp [badM, resQ, hk1]
    rw [List.find?_cons, List.find?_cons, hb]
    simp [hk, hk1]
   ·have hb : badM st (resQ st t) = true := by simp [badM, resQ, hk1, hm]
    have hP : (fun m : RfR => !(kd (st.map toR) m.name == 1)) ⟨t.tn, t.mp⟩ = true := by simp [hk, hk1]
    rw [List.find?_cons_of_pos (p := fun m : RfR => !(kd (st.map toR) m.name == 1)) hP, List.find?_cons_of_pos hb]
    rfl

theorem ftd_none {st : List StP} : firstB (dpP st) st.length = none ↔ ¬ ftd st ≠ -1 := by
 unfold ftd
 cases h : firstB (dpP st) st.length with
 | none => simp
 | some k => simp only; constructor; intro e; cases e; intro e; exact absurd (by omega) e
theorem ftw_none {st : List StP} : firstB (twP st) st.length = none ↔ ¬ ftw st ≠ -1 := by
 unfold ftw
 cases h : firstB (twP st) st.length with
 | none => simp
 | some k => simp only; constructor; intro e; cases e; intro e; exact absurd (by omega) e

theorem flt_eq (st : List StP) (tr : List TrQ) :
  (if ftd st ≠ -1 then ((3 : Nat), ftd st) else if ftw st ≠ -1 then (4, ftw st) else if rsv st tr ≠ -1 then (5, rsv st tr) else if mrk st (tr.map (resQ st)) ≠ -1 then (6, mrk st (tr.map (resQ st))) else (0, 0)) =
  ((flt (st.map toR) ((tr.flatMap refsQ).map toRf) (tr.flatMap marksQ)).1, ((flt (st.map toR) ((tr.flatMap refsQ).map toRf) (tr.flatMap marksQ)).2 : Int)) := by
 rcases h1 : firstB (dpP st) st.length with _ | k
 ·rw [if_neg (ftd_none.1 h1)]
  have g1 : firstB (dpB (st.map toR)) (st.map toR).length = none := (dp_map st).trans h1
  rcases h2 : firstB (twP st) st.length with _ | k
  ·rw [if_neg (ftw_none.1 h2)]
   have g2 : firstB (twB (st.map toR)) (st.map toR).length = none := (tw_map st).trans h2
   have hq : ∀ k x, (tr.flatMap refsQ)[k]? = some x → rfB (st.map toR) ((tr.flatMap refsQ).map toRf) k = badR st x := by
    intro k x hx
    have e : ((tr.flatMap refsQ).map toRf)[k]? = some (toRf x) := by rw [List.getElem?_map, hx]; rfl
    rw [rfB_at e, idx_map]
    rfl
   rcases firstB_find (tr.flatMap refsQ) (badR st) _ hq with ⟨a1, a2⟩ | ⟨k, x, a1, a2, a3⟩
   ·have hr : rsv st tr = -1 := by rw [rsv, a2]
    rw [if_neg (fun h => h hr)]
    have g3 : firstB (rfB (st.map toR) ((tr.flatMap refsQ).map toRf)) ((tr.flatMap refsQ).map toRf).length = none := by rw [List.length_map]; exact a1
    have hm := marks_find st tr (rsv_good hr)
    have hq2 : ∀ k x, (tr.flatMap marksQ)[k]? = some x → mkB (st.map toR) (tr.flatMap marksQ) k = (fun m : RfR => !(kd (st.map toR) m.name == 1)) x := fun k x hx => mkB_at hx
    rcases firstB_find (tr.flatMap marksQ) (fun m : RfR => !(kd (st.map toR) m.name == 1)) _ hq2 with ⟨b1, b2⟩ | ⟨k, x, b1, b2, b3⟩
    ·rw [b2] at hm
     have hmr : mrk st (tr.map (resQ st)) = -1 := by
      rw [mrk]
      cases hf : (tr.map (resQ st)).find? (badM st) with
      | none => rfl
      | some t => rw [hf] at hm; cases hm
     rw [if_neg (fun h => h hmr), flt0 g1 g2 g3 b1]
     rfl
    ·rw [b3] at hm
     cases hf : (tr.map (resQ st)).find? (badM st) with
     | none => rw [hf] at hm; cases hm
     | some t =>
      rw [hf] at hm
      simp at hm
      have hmr : mrk st (tr.map (resQ st)) = (x.at_ : Int) := by rw [mrk, hf, hm]
      rw [if_pos (by rw [hmr]; omega), flt6 g1 g2 g3 b1, rfAt_at b2, hmr]
   ·have hr : rsv st tr = (x.2 : Int) := by rw [rsv, a3]
    have g3 : firstB (rfB (st.map toR) ((tr.flatMap refsQ).map toRf)) ((tr.flatMap refsQ).map toRf).length = some k := by rw [List.length_map]; exact a1
    have e : ((tr.flatMap refsQ).map toRf)[k]? = some (toRf x) := by rw [List.getElem?_map, a2]; rfl
    rw [if_pos (by rw [hr]; omega), flt5 g1 g2 g3, rfAt_at e, hr]
    rfl
  ·have hw : ftw st = (plAt st k : Int) := by rw [ftw, h2]
   have g2 : firstB (twB (st.map toR)) (st.map toR).length = some k := (tw_map st).trans h2
   rw [if_pos (by rw [hw]; omega), flt4 g1 g2, stAt_map, hw]
 ·have hw : ftd st = (plAt st k : Int) := by rw [ftd, h1]
  have g1 : firstB (dpB (st.map toR)) (st.map toR).length = some k := (dp_map st).trans h1
  rw [if_pos (by rw [hw]; omega), flt3 g1, stAt_map, hw]

theorem check_eq (s : ByteArray) : unE s = ((rdE s).1, ((rdE s).2 : Int)) := by
 unfold unE rdE
 by_cases h160 : 160 < s.size
 ·rw [if_pos h160, if_pos h160]; rfl
 ·rw [if_neg h160, if_neg h160]
  have hag := rd_eq s
  by_cases hok : (rcR s).1 = true
  ·have hM := hag.1 hok
   have hgo := rsF_goes s (s.size + 1) R0 (-1) 1 ⟨Nat.zero_le _, Nat.le_refl _, Nat.le_refl _⟩ (by show s.size - 0 < _; omega) hok
   have hi : (rcR s).2.i ≤ s.size := hgo.inv.1
   by_cases hlt : (rcR s).2.i < s.size
   ·have hK : rcK s = false := by rw [rcK, hok]; simp; omega
    have hB : rdB s = ((rcR s).2.i : Int) := by rw [rdB, if_pos ⟨hM.bad, by rw [hM.i]; exact hlt⟩, hM.i]
    rw [if_pos hK, hB, if_pos (by omega)]
    simp
   ·have hK : rcK s = true := by rw [rcK, hok]; simp; omega
    have hB : rdB s = (rd s).bad := by rw [rdB, if_neg (fun h => hlt (by have := h.2; rw [hM.i] at this; exact this))]
    rw [if_neg (by simp [hK]), hB, if_neg (show ¬ 0 ≤ (rd s).bad by have := hM.bad; omega), hM.st, hM.re, hM.ma]
    exact flt_eq _ _
  ·have hok' : (rcR s).1 = false := by simpa using hok
   have hb := hag.2 hok'
   have hK : rcK s = false := by rw [rcK, hok']; rfl
   have hB : rdB s = ((rcR s).2.i : Int) := by rw [rdB, if_neg (fun h => by have := h.1; omega), hb]
   rw [if_pos hK, hB, if_pos (by omega)]
   simp
end Go.Proofs.YtmolmbeeoecnfaaGreatDoor
