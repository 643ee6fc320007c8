/- Own work: Pure3. -/
import Derived.Test.YtmolmbeeoecnfaaGreatDoorF06
/- Own work: the document's reader as plain functions: a state. -/
namespace Go.Proofs.YtmolmbeeoecnfaaGreatDoor
open Go.RowKit Go.BigFrame
set_option linter.unusedVariables false
set_option linter.unusedSimpArgs false

theorem cdF_st (s : ByteArray) : ∀ (f : Nat) (p : Pn) (a : ByteArray), (cdF s f p a).1.st = p.st ∧ (cdF s f p a).1.tr = p.tr ∧ (cdF s f p a).1.ma = p.ma
 | 0, _, _ => ⟨rfl, rfl, rfl⟩
 | f + 1, p, a => by
  simp only [cdF]
  split
  ·have := cdF_st s f (nmP s { p with i := p.i + 1 }) (a ++ ⟨#[ahd s p.i p.bad, nmC s { p with i := p.i + 1 }]⟩)
   exact this
  ·exact ⟨rfl, rfl, rfl⟩
theorem cdF_inv (s : ByteArray) : ∀ (f : Nat) (p : Pn) (a : ByteArray), Inv s p → Inv s (cdF s f p a).1 ∧ p.i ≤ (cdF s f p a).1.i
 | 0, _, _, h => ⟨h, Nat.le_refl _⟩
 | f + 1, p, a, h => by
  simp only [cdF]
  split
  ·have hi := (isC_in s p.i p.bad ‹_›).2
   have h4 : Inv s { p with i := p.i + 1 } := h.to _ _ (by simp) hi
   have h5 := h4.nm
   have h6 := cdF_inv s f (nmP s { p with i := p.i + 1 }) (a ++ ⟨#[ahd s p.i p.bad, nmC s { p with i := p.i + 1 }]⟩) h5.1
   exact ⟨h6.1, by have := h5.2; have := h6.2; simp only at *; omega⟩
  ·exact ⟨h, Nat.le_refl _⟩

theorem t5_inv {s : ByteArray} {p : Pn} (h : Inv s p) (tg : UInt8) : Inv s (tr5 s p tg) ∧ p.i ≤ (tr5 s p tg).i := by
 unfold tr5
 split
 ·have hi := (isM_in s p.i p.bad ‹_›).2
  obtain ⟨h1, h2, h3, h4, h5⟩ := h
  refine ⟨⟨hi, ?_, ?_, ?_, ?_⟩, ?_⟩ <;> simp <;> omega
 ·exact ⟨h, Nat.le_refl _⟩
theorem t5_st (s : ByteArray) (p : Pn) (tg : UInt8) : (tr5 s p tg).st = p.st ∧ (tr5 s p tg).tr = p.tr := by unfold tr5; split <;> exact ⟨rfl, rfl⟩

theorem trP_ok (s : ByteArray) (own : Nat) (p : Pn) (h : Inv s p) (hn : p.i < s.size) : Inv s (trP s own p) ∧ p.i < (trP s own p).i ∧ (trP s own p).st = p.st := by
 have b1 := tkI_bd s 97 122 (p.i + 1) p.bad hn
 have h1 : Inv s (tr1 s p) := h.to _ _ (by omega) b1.2
 have h2 := cdF_inv s (s.size - (tr1 s p).i) (tr1 s p) ⟨#[]⟩ h1
 have s2 := cdF_st s (s.size - (tr1 s p).i) (tr1 s p) ⟨#[]⟩
 have e2 : tr2 s p = (cdF s (s.size - (tr1 s p).i) (tr1 s p) ⟨#[]⟩).1 := rfl
 rw [← e2] at h2 s2
 have b3 := tkI_bd s 62 62 (tr2 s p).i (tr2 s p).bad h2.1.i
 have h3 : Inv s (tr3 s (tr2 s p)) := h2.1.to _ _ b3.1 b3.2
 have h4 := h3.nm
 have h5 := t5_inv h4.1 (nmC s (tr3 s (tr2 s p)))
 have s5 := t5_st s (nmP s (tr3 s (tr2 s p))) (nmC s (tr3 s (tr2 s p)))
 have b6 := dgI_bd s (tr5 s (nmP s (tr3 s (tr2 s p))) (nmC s (tr3 s (tr2 s p)))).i (tr5 s (nmP s (tr3 s (tr2 s p))) (nmC s (tr3 s (tr2 s p)))).bad h5.1.i
 have l1 : p.i + 1 ≤ (tr1 s p).i := b1.1
 have l3 : (tr2 s p).i ≤ (tr3 s (tr2 s p)).i := b3.1
 have l2 := h2.2
 have l4 := h4.2
 have l5 := h5.2
 have lz : p.i < (trP s own p).i := by
  show p.i < dgI s _ _
  omega
 refine ⟨?_, lz, ?_⟩
 ·have htr : (tr5 s (nmP s (tr3 s (tr2 s p))) (nmC s (tr3 s (tr2 s p)))).tr.length = p.tr.length := by rw [s5.2]; show (tr2 s p).tr.length = _; rw [s2.2.1]; rfl
  have q := h.tr
  refine ⟨b6.2, ?_, ?_, ?_, ?_⟩
  ·have := h5.1.st; show (tr5 _ _ _).st.length ≤ dgI s _ _; omega
  ·show (_ ++ [_]).length ≤ (trP s own p).i
   rw [List.length_append, htr]
   simp only [List.length_cons, List.length_nil]
   omega
  ·have := h5.1.re; show (tr5 _ _ _).re.length ≤ dgI s _ _; omega
  ·have := h5.1.ma; show (tr5 _ _ _).ma.length ≤ dgI s _ _; omega
 ·show (tr5 _ _ _).st = _
  rw [s5.1]
  show (tr2 s p).st = _
  rw [s2.1]
  rfl

def trF (s : ByteArray) (own : Nat) : Nat → Pn → Pn
 | 0, p => p
 | f + 1, p => if ahd s p.i p.bad = 47 then trF s own f (trP s own p) else p
def trL (s : ByteArray) (own : Nat) (p : Pn) : Pn := trF s own (s.size - p.i) p

theorem sl_in (s : ByteArray) (i : Nat) (bad : Int) (h : ahd s i bad = 47) : bad < 0 ∧ i < s.size := by
 have := ahd_pos s i bad (by rw [h]; decide)
 exact ⟨this.1, this.2.1⟩

theorem trF_more (s : ByteArray) (own : Nat) : ∀ (f g : Nat) (p : Pn), Inv s p → s.size - p.i ≤ f → s.size - p.i ≤ g → trF s own f p = trF s own g p
 | 0, 0, _, _, _, _ => rfl
 | 0, g + 1, p, hi, h1, _ => by
  simp only [trF]
  split
  ·have := (sl_in s p.i p.bad ‹_›).2; omega
  ·rfl
 | f + 1, 0, p, hi, _, h2 => by
  simp only [trF]
  split
  ·have := (sl_in s p.i p.bad ‹_›).2; omega
  ·rfl
 | f + 1, g + 1, p, hi, h1, h2 => by
  simp only [trF]
  split
  ·have hi2 := (sl_in s p.i p.bad ‹_›).2
   have hk := trP_ok s own p hi hi2
   exact trF_more s own f g _ hk.1 (by omega) (by omega)
  ·rfl
theorem trL_go (s : ByteArray) (own : Nat) (p : Pn) (hi : Inv s p) (h : ahd s p.i p.bad = 47) : trL s own p = trL s own (trP s own p) := by
 have hi2 := (sl_in s p.i p.bad h).2
 have hk := trP_ok s own p hi hi2
 unfold trL
 rw [show s.size - p.i = (s.size - (p.i + 1)) + 1 by omega]
 simp only [trF]
 rw [if_pos h]
 exact trF_more s own _ _ _ hk.1 (by omega) (by omega)
theorem trL_stop (s : ByteArray) (own : Nat) (p : Pn) (h : ahd s p.i p.bad ≠ 47) : trL s own p = p := by
 unfold trL
 cases s.size - p.i with
 | zero => rfl
 | succ n => simp [trF, h]
theorem trF_ok (s : ByteArray) (own : Nat) : ∀ (f : Nat) (p : Pn), Inv s p → Inv s (trF s own f p) ∧ p.i ≤ (trF s own f p).i ∧ (trF s own f p).st = p.st
 | 0, p, h => ⟨h, Nat.le_refl _, rfl⟩
 | f + 1, p, h => by
  simp only [trF]
  split
  ·have hi2 := (sl_in s p.i p.bad ‹_›).2
   have hk := trP_ok s own p h hi2
   have hr := trF_ok s own f _ hk.1
   exact ⟨hr.1, by omega, by rw [hr.2.2, hk.2.2]⟩
  ·exact ⟨h, Nat.le_refl _, rfl⟩

def setK (p : Pn) (own k : Nat) : Pn := { p with st := p.st.modify own fun x => { x with kind := k } }
def setE (p : Pn) (own n : Nat) : Pn := { p with st := p.st.modify own fun x => { x with end_ := n } }
def acP (s : ByteArray) (sg : UInt8) (p : Pn) : Pn := { p with i := acI s sg p.i p.bad, bad := acB s sg p.i p.bad }
def tkP (s : ByteArray) (lo hi : UInt8) (p : Pn) : Pn := { p with i := tkI s lo hi p.i p.bad, bad := tkB s lo hi p.i p.bad }

def inF (s : ByteArray) (g : Pn → Pn) (fin : UInt8) (least : Nat) : Nat → Nat → Pn → Pn
 | 0, _, p => p
 | f + 1, n, p => if p.bad < 0 ∧ (n < least ∨ ahd s p.i p.bad ≠ fin) then inF s g fin least f (n + 1) (g p) else p
def inL (s : ByteArray) (g : Pn → Pn) (fin : UInt8) (least : Nat) (n : Nat) (p : Pn) : Pn := inF s g fin least (s.size + 1 - p.i) n p
def inP (s : ByteArray) (g : Pn → Pn) (fin : UInt8) (least : Nat) (p : Pn) : Pn := tkP s fin fin (inL s g fin least 0 { p with i := p.i + 1 })

def stX (s : ByteArray) (p : Pn) (up : Int) (depth : Nat) : StR :=
 ⟨tkC s 65 90 p.i p.bad, p.i, up, depth, 0, 0, acS s 43 (tkP s 65 90 p).i (tkP s 65 90 p).bad, acS s 45 (acP s 43 (tkP s 65 90 p)).i (acP s 43 (tkP s 65 90 p)).bad⟩
def st3 (s : ByteArray) (p : Pn) : Pn := acP s 45 (acP s 43 (tkP s 65 90 p))
def st4 (s : ByteArray) (p : Pn) (up : Int) (depth : Nat) : Pn := { st3 s p with st := (st3 s p).st ++ [stX s p up depth] }
def st5 (s : ByteArray) (g : Pn → Pn) (own : Nat) (q : Pn) : Pn :=
 if ahd s q.i q.bad = 40 then inP s g 41 1 (setK q own 1) else if ahd s q.i q.bad = 91 then inP s g 93 2 (setK q own 2) else q
def st6 (own : Nat) (q : Pn) : Pn := setE q own q.st.length
def stF (s : ByteArray) : Nat → Pn → Int → Nat → Pn
 | 0, p, _, _ => p
 | f + 1, p, up, depth =>
  if 0 ≤ (tkP s 65 90 p).bad then tkP s 65 90 p
  else trL s p.st.length (st6 p.st.length (st5 s (fun q => stF s f q (p.st.length : Nat) (depth + 1)) p.st.length (st4 s p up depth)))

structure Goes (s : ByteArray) (p r : Pn) : Prop where
 inv : Inv s r
 i : p.i ≤ r.i
 on : r.bad < 0 → p.i < r.i
 st : p.st <+: r.st

theorem inF_more (s : ByteArray) (g : Pn → Pn) (fin : UInt8) (least : Nat) (m : Nat) (hg : ∀ q, Inv s q → q.bad < 0 → m ≤ q.i → Goes s q (g q)) : ∀ (f f' n : Nat) (p : Pn), Inv s p → m ≤ p.i → (p.bad < 0 → s.size + 1 - p.i ≤ f) → (p.bad < 0 → s.size + 1 - p.i ≤ f') → inF s g fin least f n p = inF s g fin least f' n p
 | 0, 0, _, _, _, _, _, _ => rfl
 | 0, f' + 1, n, p, hi, hm, h1, _ => by
  simp only [inF]
  split
  ·rename_i h; have := h1 h.1; have := hi.i; omega
  ·rfl
 | f + 1, 0, n, p, hi, hm, _, h2 => by
  simp only [inF]
  split
  ·rename_i h; have := h2 h.1; have := hi.i; omega
  ·rfl
 | f + 1, f' + 1, n, p, hi, hm, h1, h2 => by
  simp only [inF]
  split
  ·rename_i h
   have hk := hg p hi h.1 hm
   have := h1 h.1
   have := h2 h.1
   have := hk.i
   exact inF_more s g fin least m hg f f' _ _ hk.inv (by omega) (fun hb => by have := hk.on hb; omega) (fun hb => by have := hk.on hb; omega)
  ·rfl
theorem inL_go (s : ByteArray) (g : Pn → Pn) (fin : UInt8) (least m n : Nat) (hg : ∀ q, Inv s q → q.bad < 0 → m ≤ q.i → Goes s q (g q)) (p : Pn) (hi : Inv s p) (hm : m ≤ p.i) (h : p.bad < 0 ∧ (n < least ∨ ahd s p.i p.bad ≠ fin)) :
  inL s g fin least n p = inL s g fin least (n + 1) (g p) := by
 have hk := hg p hi h.1 hm
 have := hi.i
 have := hk.i
 unfold inL
 rw [show s.size + 1 - p.i = (s.size - p.i) + 1 by omega]
 simp only [inF]
 rw [if_pos h]
 exact inF_more s g fin least m hg _ _ _ _ hk.inv (by omega) (fun hb => by have := hk.on hb; omega) (fun hb => by have := hk.on hb; omega)
theorem inL_stop (s : ByteArray) (g : Pn → Pn) (fin : UInt8) (least n : Nat) (p : Pn) (h : ¬ (p.bad < 0 ∧ (n < least ∨ ahd s p.i p.bad ≠ fin))) : inL s g fin least n p = p := by
 unfold inL
 cases s.size + 1 - p.i with
 | zero => rfl
 | succ n => simp only [inF]; rw [if_neg h]

theorem inF_ok (s : ByteArray) (g : Pn → Pn) (fin : UInt8) (least m : Nat) (hg : ∀ q, Inv s q → q.bad < 0 → m ≤ q.i → Goes s q (g q)) : ∀ (f n : Nat) (p : Pn), Inv s p → m ≤ p.i → Inv s (inF s g fin least f n p) ∧ p.i ≤ (inF s g fin least f n p).i ∧ p.st <+: (inF s g fin least f n p).st
 | 0, n, p, h, hm => ⟨h, Nat.le_refl _, List.prefix_refl _⟩
 | f + 1, n, p, h, hm => by
  simp only [inF]
  split
  ·rename_i hc
   have hk := hg p h hc.1 hm
   have := hk.i
   have hr := inF_ok s g fin least m hg f (n + 1) (g p) hk.inv (by omega)
   exact ⟨hr.1, by omega, List.IsPrefix.trans hk.st hr.2.2⟩
  ·exact ⟨h, Nat.le_refl _, List.prefix_refl _⟩

theorem tkP_inv {s : ByteArray} {p : Pn} (h : Inv s p) (lo hi : UInt8) : Inv s (tkP s lo hi p) ∧ p.i ≤ (tkP s lo hi p).i := by
 have := tkI_bd s lo hi p.i p.bad h.i
 exact ⟨h.to _ _ this.1 this.2, this.1⟩
theorem acP_inv {s : ByteArray} {p : Pn} (h : Inv s p) (sg : UInt8) (h0 : sg ≠ 0) : Inv s (acP s sg p) ∧ p.i ≤ (acP s sg p).i := by
 have := acI_bd s sg p.i p.bad h0 h.i
 exact ⟨h.to _ _ this.1 this.2, this.1⟩

theorem inP_ok (s : ByteArray) (g : Pn → Pn) (fin : UInt8) (least : Nat) (p : Pn) (hi : Inv s p) (hn : p.i < s.size) (hg : ∀ q, Inv s q → q.bad < 0 → p.i + 1 ≤ q.i → Goes s q (g q)) :
  Inv s (inP s g fin least p) ∧ p.i < (inP s g fin least p).i ∧ p.st <+: (inP s g fin least p).st := by
 have h1 : Inv s { p with i := p.i + 1 } := hi.to _ _ (by simp) hn
 have h2 := inF_ok s g fin least (p.i + 1) hg (s.size + 1 - (p.i + 1)) 0 { p with i := p.i + 1 } h1 (Nat.le_refl _)
 have h3 := tkP_inv h2.1 fin fin
 have l2 := h2.2.1
 have l3 := h3.2
 refine ⟨h3.1, ?_, h2.2.2⟩
 show p.i < (tkP s fin fin (inF s g fin least (s.size + 1 - (p.i + 1)) 0 { p with i := p.i + 1 })).i
 simp only at l2
 omega

theorem prefix_modify {α : Type} (f : α → α) : ∀ (l m : List α) (n : Nat), l <+: m → l.length ≤ n → l <+: m.modify n f
 | [], _, _, _, _ => List.nil_prefix
 | x :: l, [], _, h, _ => by simp at h
 | x :: l, y :: m, 0, h, hn => by simp at hn
 | x :: l, y :: m, n + 1, h, hn => by
  rw [List.cons_prefix_cons] at h
  simp only [List.modify_succ_cons, List.cons_prefix_cons]
  exact ⟨h.1, prefix_modify f l m n h.2 (by simpa using hn)⟩

theorem setK_inv {s : ByteArray} {p : Pn} (h : Inv s p) (own k : Nat) : Inv s (setK p own k) := ⟨h.i, by have := h.st; simp [setK]; exact this, h.tr, h.re, h.ma⟩
theorem setE_inv {s : ByteArray} {p : Pn} (h : Inv s p) (own k : Nat) : Inv s (setE p own k) := ⟨h.i, by have := h.st; simp [setE]; exact this, h.tr, h.re, h.ma⟩

theorem stF_goes (s : ByteArray) : ∀ (f : Nat) (p : Pn) (up : Int) (depth : Nat), Inv s p → p.bad < 0 → s.size - p.i < f → Goes s p (stF s f p up depth)
 | 0, p, _, _, h, _, hf => by omega
 | f + 1, p, up, depth, h, hb, hf => by
  have h1 := tkP_inv h 65 90
  have e1 : (tkP s 65 90 p).bad = tkB s 65 90 p.i p.bad := rfl
  simp only [stF]
  split
  ·rename_i hb1
   exact ⟨h1.1, h1.2, fun hx => by omega, List.prefix_refl _⟩
  ·rename_i hb1
   have hn := tkB_neg s 65 90 p.i p.bad (by rw [e1] at hb1; omega)
   have i1 : (tkP s 65 90 p).i = p.i + 1 := hn.2.2.1
   have h2 := acP_inv h1.1 43 (by decide)
   have h3 := acP_inv h2.1 45 (by decide)
   have l3 : p.i + 1 ≤ (st3 s p).i := by have := h3.2; have := h2.2; show p.i + 1 ≤ (acP s 45 (acP s 43 (tkP s 65 90 p))).i; omega
   have h4 : Inv s (st4 s p up depth) := by
    obtain ⟨a1, a2, a3, a4, a5⟩ := h3.1
    refine ⟨a1, ?_, a3, a4, a5⟩
    have := h.st
    show (p.st ++ [_]).length ≤ (st3 s p).i
    rw [List.length_append]
    simp only [List.length_cons, List.length_nil]
    omega
   have i4 : (st4 s p up depth).i = (st3 s p).i := rfl
   have s4 : p.st <+: (st4 s p up depth).st := List.prefix_append _ _
   generalize st4 s p up depth = p4 at *
   have hG : ∀ q, Inv s q → q.bad < 0 → p4.i + 1 ≤ q.i → Goes s q (stF s f q (p.st.length : Nat) (depth + 1)) := fun q hq hqb hqi => stF_goes s f q _ _ hq hqb (by omega)
   have h5 : Inv s (st5 s (fun q => stF s f q (p.st.length : Nat) (depth + 1)) p.st.length p4) ∧ p4.i ≤ (st5 s (fun q => stF s f q (p.st.length : Nat) (depth + 1)) p.st.length p4).i ∧ p.st <+: (st5 s (fun q => stF s f q (p.st.length : Nat) (depth + 1)) p.st.length p4).st := by
    unfold st5
    split
    ·rename_i hc
     have hin := (ahd_pos s p4.i p4.bad (by rw [hc]; decide)).2.1
     have h5 := inP_ok s (fun q => stF s f q (p.st.length : Nat) (depth + 1)) 41 1 (setK p4 p.st.length 1) (setK_inv h4 _ _) hin hG
     exact ⟨h5.1, Nat.le_of_lt h5.2.1, List.IsPrefix.trans (prefix_modify _ _ _ _ s4 (Nat.le_refl _)) h5.2.2⟩
    ·split
     ·rename_i hc
      have hin := (ahd_pos s p4.i p4.bad (by rw [hc]; decide)).2.1
      have h5 := inP_ok s (fun q => stF s f q (p.st.length : Nat) (depth + 1)) 93 2 (setK p4 p.st.length 2) (setK_inv h4 _ _) hin hG
      exact ⟨h5.1, Nat.le_of_lt h5.2.1, List.IsPrefix.trans (prefix_modify _ _ _ _ s4 (Nat.le_refl _)) h5.2.2⟩
     ·exact ⟨h4, Nat.le_refl _, s4⟩
   generalize st5 s (fun q => stF s f q (p.st.length : Nat) (depth + 1)) p.st.length p4 = p5 at h5
   have h6 : Inv s (st6 p.st.length p5) := setE_inv h5.1 p.st.length p5.st.length
   have h7 := trF_ok s p.st.length (s.size - (st6 p.st.length p5).i) _ h6
   have e6 : (st6 p.st.length p5).i = p5.i := rfl
   have l5 := h5.2.1
   have l7 := h7.2.1
   refine ⟨h7.1, ?_, fun _ => ?_, ?_⟩
   ·show p.i ≤ (trF _ _ _ _).i; omega
   ·show p.i < (trF _ _ _ _).i; omega
   ·show p.st <+: (trF _ _ _ _).st
    rw [h7.2.2]
    exact prefix_modify _ _ _ _ h5.2.2 (Nat.le_refl _)

end Go.Proofs.YtmolmbeeoecnfaaGreatDoor
