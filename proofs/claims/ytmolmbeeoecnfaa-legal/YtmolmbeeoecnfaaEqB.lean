/- Own work: the two readers agree: states, the whole text. -/
import Derived.Test.YtmolmbeeoecnfaaEqA
namespace Go.Proofs.Ytmolmbeeoecnfaa
open Go.RowKit
set_option linter.unusedVariables false
set_option linter.unusedSimpArgs false

structure Mt (p : Pn) (r : Rn) : Prop where
  i : p.i = r.i
  bad : p.bad < 0
  st : p.st = r.st.map toR
  tr : p.tr = r.tr.map toTr
  re : p.re = (r.tr.flatMap refsQ).map toRf
  ma : p.ma = r.tr.flatMap marksQ
def Ag (P : Pn) (q : Bool × Rn) : Prop := (q.1 = true → Mt P q.2) ∧ (q.1 = false → P.bad = (q.2.i : Int))

theorem trF_bad (s : ByteArray) (own f : Nat) (p : Pn) (hb : 0 ≤ p.bad) : trF s own f p = p := by
  cases f with
  | zero => rfl
  | succ f => simp only [trF]; rw [ahd_bad hb, if_neg (by decide)]

theorem trF_eq (s : ByteArray) (own : Nat) : ∀ (f : Nat) (p : Pn) (r : Rn), Mt p r → Ag (trF s own f p) (rtF s own f r)
  | 0, p, r, h => ⟨fun _ => h, fun e => (by cases e)⟩
  | f + 1, p, r, h => by
    simp only [trF, rtF]
    rw [ahd_good h.bad, h.i]
    by_cases h47 : byte s r.i = 47
    · rw [if_pos h47, if_pos h47]
      have hi := sg_in s 47 r.i (by decide) h47
      have ht := tr_eq s own p h.bad (by rw [h.i]; exact hi)
      rw [h.i] at ht
      by_cases hok : (rtP s own r.i).1 = true
      · rw [if_pos hok]
        refine trF_eq s own f _ _ ?_
        rw [ht.1 hok]
        refine ⟨rfl, h.bad, h.st, ?_, ?_, ?_⟩
        · simp only; rw [h.tr]; simp
        · simp only; rw [h.re]; simp
        · simp only; rw [h.ma]; simp
      · have hok' : (rtP s own r.i).1 = false := by simpa using hok
        rw [if_neg hok]
        have hb := ht.2 hok'
        refine ⟨fun e => (by cases e), fun _ => ?_⟩
        rw [trF_bad s own f _ (by rw [hb]; omega)]
        exact hb
    · rw [if_neg h47, if_neg h47]
      exact ⟨fun _ => h, fun e => (by cases e)⟩
theorem trL_eq (s : ByteArray) (own : Nat) (p : Pn) (r : Rn) (h : Mt p r) : Ag (trL s own p) (rtL s own r) := by
  unfold trL rtL
  rw [h.i]
  exact trF_eq s own _ p r h

theorem tkP_bad (s : ByteArray) (lo hi : UInt8) (p : Pn) (hb : 0 ≤ p.bad) : (tkP s lo hi p).bad = p.bad := (tk_bad hb).2.2
theorem tkP_yes (s : ByteArray) (lo hi : UInt8) (p : Pn) (hb : p.bad < 0) (h : tkOk s lo hi p.i = true) : tkP s lo hi p = { p with i := p.i + 1 } := by
  obtain ⟨-, e2, e3⟩ := tk_yes (s := s) hb h
  rw [tkP, e2, e3]
theorem tkP_no (s : ByteArray) (lo hi : UInt8) (p : Pn) (hb : p.bad < 0) (h : tkOk s lo hi p.i = false) : (tkP s lo hi p).bad = p.i := (tk_no (s := s) hb h).2.2

def riEnd (s : ByteArray) (fin : UInt8) (least : Nat) (q : Bool × Nat × Rn) : Bool × Rn :=
  if q.1 = false then (false, q.2.2) else if q.2.1 < least ∨ byte s q.2.2.i ≠ fin then (false, q.2.2) else (true, { q.2.2 with i := q.2.2.i + 1 })
theorem riP_end (s : ByteArray) (g : Rn → Bool × Rn) (fin : UInt8) (least : Nat) (r : Rn) : riP s g fin least r = riEnd s fin least (riL s g 0 { r with i := r.i + 1 }) := rfl

theorem inL_eq (s : ByteArray) (G : Pn → Pn) (g : Rn → Bool × Rn) (fin : UInt8) (hfin : isN fin = false) (h0 : fin ≠ 0) (least m : Nat)
    (hG : ∀ q, Inv s q → q.bad < 0 → m ≤ q.i → Goes s q (G q)) (hg : ∀ q, RdInv s q → m ≤ q.i → (g q).1 = true → GoesR s q (g q).2)
    (hA : ∀ p r, Mt p r → Inv s p → RdInv s r → m ≤ r.i → Ag (G p) (g r)) (hN0 : ∀ r, isN (byte s r.i) = false → g r = (false, r)) :
    ∀ (d n : Nat) (p : Pn) (r : Rn), s.size - r.i ≤ d → Mt p r → Inv s p → RdInv s r → m ≤ r.i → Ag (tkP s fin fin (inL s G fin least n p)) (riEnd s fin least (riL s g n r)) := by
  intro d
  induction d with
  | zero =>
    intro n p r hd h hI hR hm
    have hNf : isN (byte s r.i) = false := by
      cases e : isN (byte s r.i)
      · rfl
      · have := isN_b s r.i e; omega
    rw [riL_stop s g n r hNf]
    have hbf : byte s r.i ≠ fin := fun e => by have := sg_in s fin r.i h0 e; omega
    have hgo : p.bad < 0 ∧ (n < least ∨ ahd s p.i p.bad ≠ fin) := ⟨h.bad, Or.inr (by rw [ahd_good h.bad, h.i]; exact hbf)⟩
    rw [inL_go s G fin least m n hG p hI (by rw [h.i]; exact hm) hgo]
    have hb := (hA p r h hI hR hm).2 (by rw [hN0 r hNf])
    rw [hN0 r hNf] at hb
    have hb' : (G p).bad = (r.i : Int) := hb
    rw [inL_stop s G fin least (n + 1) (G p) (fun e => by omega)]
    unfold riEnd
    rw [if_neg (by simp), if_pos (Or.inr hbf)]
    exact ⟨fun e => (by cases e), fun _ => by rw [tkP_bad s _ _ _ (by rw [hb']; omega)]; exact hb'⟩
  | succ d ih =>
    intro n p r hd h hI hR hm
    by_cases hN : isN (byte s r.i) = true
    · have hbf : byte s r.i ≠ fin := fun e => by rw [e, hfin] at hN; cases hN
      have hgo : p.bad < 0 ∧ (n < least ∨ ahd s p.i p.bad ≠ fin) := ⟨h.bad, Or.inr (by rw [ahd_good h.bad, h.i]; exact hbf)⟩
      have hin := isN_b s r.i hN
      rw [inL_go s G fin least m n hG p hI (by rw [h.i]; exact hm) hgo]
      have hAg := hA p r h hI hR hm
      have hGo := hG p hI h.bad (by rw [h.i]; exact hm)
      by_cases hok : (g r).1 = true
      · rw [riL_go s g m n hg r hR hm hN hok]
        have hq := hg r hR hm hok
        have := hq.i
        exact ih (n + 1) (G p) (g r).2 (by omega) (hAg.1 hok) hGo.inv hq.inv (by omega)
      · have hok' : (g r).1 = false := by simpa using hok
        rw [riL_bad s g n r hN hok']
        have hb := hAg.2 hok'
        rw [inL_stop s G fin least (n + 1) (G p) (fun e => by omega)]
        unfold riEnd
        rw [if_pos rfl]
        exact ⟨fun e => (by cases e), fun _ => by rw [tkP_bad s _ _ _ (by rw [hb]; omega)]; exact hb⟩
    · have hNf : isN (byte s r.i) = false := by simpa using hN
      rw [riL_stop s g n r hNf]
      unfold riEnd
      rw [if_neg (by simp)]
      by_cases hc : n < least ∨ byte s r.i ≠ fin
      · have hgo : p.bad < 0 ∧ (n < least ∨ ahd s p.i p.bad ≠ fin) := ⟨h.bad, by rw [ahd_good h.bad, h.i]; exact hc⟩
        rw [inL_go s G fin least m n hG p hI (by rw [h.i]; exact hm) hgo]
        have hb := (hA p r h hI hR hm).2 (by rw [hN0 r hNf])
        rw [hN0 r hNf] at hb
        have hb' : (G p).bad = (r.i : Int) := hb
        rw [inL_stop s G fin least (n + 1) (G p) (fun e => by omega), if_pos hc]
        exact ⟨fun e => (by cases e), fun _ => by rw [tkP_bad s _ _ _ (by rw [hb']; omega)]; exact hb'⟩
      · rw [inL_stop s G fin least n p (fun e => hc (by have := e.2; rw [ahd_good h.bad, h.i] at this; exact this)), if_neg hc]
        have hb : byte s r.i = fin := by
          by_cases e : byte s r.i = fin
          · exact e
          · exact absurd (Or.inr e) hc
        rw [tkP_yes s fin fin p h.bad (by rw [tkOk_one s fin h0, h.i, hb]; simp)]
        exact ⟨fun _ => ⟨by simp only; rw [h.i], h.bad, h.st, h.tr, h.re, h.ma⟩, fun e => (by cases e)⟩

theorem inP_eq (s : ByteArray) (G : Pn → Pn) (g : Rn → Bool × Rn) (fin : UInt8) (hfin : isN fin = false) (h0 : fin ≠ 0) (least : Nat) (p : Pn) (r : Rn) (h : Mt p r) (hI : Inv s p) (hR : RdInv s r) (hn : r.i < s.size)
    (hG : ∀ q, Inv s q → q.bad < 0 → r.i + 1 ≤ q.i → Goes s q (G q)) (hg : ∀ q, RdInv s q → r.i + 1 ≤ q.i → (g q).1 = true → GoesR s q (g q).2)
    (hA : ∀ p' r', Mt p' r' → Inv s p' → RdInv s r' → r.i + 1 ≤ r'.i → Ag (G p') (g r')) (hN0 : ∀ r, isN (byte s r.i) = false → g r = (false, r)) :
    Ag (inP s G fin least p) (riP s g fin least r) := by
  rw [riP_end, inP]
  refine inL_eq s G g fin hfin h0 least (r.i + 1) hG hg hA hN0 s.size 0 _ _ (Nat.sub_le _ _) ⟨by simp only; rw [h.i], h.bad, h.st, h.tr, h.re, h.ma⟩ (hI.to _ _ (by simp) (by rw [h.i]; exact hn)) ⟨hn, ?_, ?_⟩ (Nat.le_refl _)
  · have := hR.2.1; simp only; omega
  · have := hR.2.2; simp only; omega

theorem cut_cons (s : ByteArray) (i : Nat) (h : isD (byte s i) = true) : (⟨#[byte s i]⟩ : ByteArray) ++ cut s (i + 1) (dend s (i + 1)) = cut s i (dend s i) := by
  obtain ⟨hi, he⟩ := dend_go s i h
  have hge := dend_ge s (i + 1)
  apply ByteArray.ext
  rw [ByteArray.data_append]
  apply Array.toList_inj.1
  rw [he]
  unfold cut
  simp only [Array.toList_append]
  have e1 : s.data.toList.drop i = s[i] :: s.data.toList.drop (i + 1) := by
    rw [List.drop_eq_getElem_cons (by simpa using hi)]
    rfl
  rw [e1, show dend s (i + 1) - i = (dend s (i + 1) - (i + 1)) + 1 by omega, List.take_succ_cons, byte_in s i hi]
  rfl

theorem ac_bad (s : ByteArray) (sg : UInt8) (h0 : sg ≠ 0) (p : Pn) (hb : 0 ≤ p.bad) : acP s sg p = p ∧ acS s sg p.i p.bad = ⟨#[]⟩ := by
  have hg : acGo s sg p.i p.bad = false := by rw [acGo, ahd_bad hb]; simp; exact fun e => h0 e.symm
  have hg' : ¬ acGo s sg p.i p.bad = true := by simp [hg]
  exact ⟨by rw [acP, acI, acB, if_neg hg', if_neg hg'], by rw [acS, if_neg hg']⟩
theorem ac_eq (s : ByteArray) (sg : UInt8) (h0 : sg ≠ 0) (p : Pn) (hb : p.bad < 0) :
    (abK s sg p.i = true → acP s sg p = { p with i := abI s sg p.i } ∧ acS s sg p.i p.bad = abS s sg p.i) ∧ (abK s sg p.i = false → (acP s sg p).bad = (abI s sg p.i : Int)) := by
  by_cases e : byte s p.i = sg
  · have hg : acGo s sg p.i p.bad = true := by rw [acGo, ahd_good hb, e]; simp
    rw [abK, if_pos e, abI, if_pos e, abS, if_pos e, acP, acI, if_pos hg, acB, if_pos hg, acS, if_pos hg]
    by_cases hd : isD (byte s (p.i + 1)) = true
    · obtain ⟨a1, a2, a3⟩ := tk_yes (s := s) (lo := 48) (hi := 57) (i := p.i + 1) hb (by rw [tkOk_isD]; exact hd)
      obtain ⟨-, he⟩ := dend_go s (p.i + 1) hd
      refine ⟨fun _ => ?_, fun h => by rw [hd] at h; cases h⟩
      rw [a1, a2, a3]
      simp only [dgS, dgI, if_pos hb]
      exact ⟨by rw [he], cut_cons s (p.i + 1) hd⟩
    · have hd' : isD (byte s (p.i + 1)) = false := by simpa using hd
      obtain ⟨a1, a2, a3⟩ := tk_no (s := s) (lo := 48) (hi := 57) (i := p.i + 1) hb (by rw [tkOk_isD]; exact hd')
      refine ⟨fun h => absurd h hd, fun _ => ?_⟩
      rw [dend_stop s (p.i + 1) hd']
      exact a3
  · have hg : ¬ acGo s sg p.i p.bad = true := by rw [acGo, ahd_good hb]; simpa using e
    rw [abK, if_neg e, abI, if_neg e, abS, if_neg e, acP, acI, if_neg hg, acB, if_neg hg, acS, if_neg hg]
    exact ⟨fun _ => ⟨rfl, rfl⟩, fun h => (by cases h)⟩

theorem modify_last {α : Type} (g : α → α) (x : α) : ∀ (l : List α), (l ++ [x]).modify l.length g = l ++ [g x]
  | [] => by simp
  | y :: l => by simp [modify_last g x l]
theorem map_modify {α β : Type} (f : α → β) (g : α → α) (g' : β → β) (h : ∀ x, f (g x) = g' (f x)) : ∀ (l : List α) (k : Nat), (l.modify k g).map f = (l.map f).modify k g'
  | [], _ => by simp
  | x :: l, 0 => by simp [h]
  | x :: l, k + 1 => by simp [map_modify f g g' h l k]

theorem st_bad (s : ByteArray) (g : Pn → Pn) (own : Nat) (q : Pn) (hb : 0 ≤ q.bad) : (trL s own (st6 own (st5 s g own q))).bad = q.bad := by
  have h5 : st5 s g own q = q := by rw [st5, ahd_bad hb, if_neg (by decide), if_neg (by decide)]
  rw [h5, trL, trF_bad s own _ _ (by exact hb)]
  rfl

theorem st_eq (s : ByteArray) : ∀ (f : Nat) (p : Pn) (r : Rn) (up : Int) (d : Nat), Mt p r → Inv s p → RdInv s r → s.size - r.i < f → Ag (stF s f p up d) (rsF s f r up d)
  | 0, p, r, up, d, h, hI, hR, hf => by omega
  | f + 1, p, r, up, d, h, hI, hR, hf => by
    have hlen : p.st.length = r.st.length := by rw [h.st]; simp
    simp only [stF, rsF]
    by_cases hN : isN (byte s r.i) = true
    · have hin := isN_b s r.i hN
      have hN' : ¬ isN (byte s r.i) = false := by simp [hN]
      have hok : tkOk s 65 90 p.i = true := by rw [tkOk_isN, h.i]; exact hN
      have hp1 := tkP_yes s 65 90 p h.bad hok
      rw [if_neg hN', if_neg (by rw [hp1]; simp only; have := h.bad; omega), hlen]
      have ha := ac_eq s 43 (by decide) (tkP s 65 90 p) (by rw [hp1]; exact h.bad)
      have e1 : (tkP s 65 90 p).i = r.i + 1 := by rw [hp1]; simp only; rw [h.i]
      rw [e1] at ha
      by_cases h43 : abK s 43 (r.i + 1) = true
      · rw [if_neg (by simp [h43])]
        obtain ⟨b1, b2⟩ := ha.1 h43
        have b1' : acP s 43 (tkP s 65 90 p) = { p with i := abI s 43 (r.i + 1) } := by rw [b1, hp1]
        have hc := ac_eq s 45 (by decide) (acP s 43 (tkP s 65 90 p)) (by rw [b1']; exact h.bad)
        have e2 : (acP s 43 (tkP s 65 90 p)).i = abI s 43 (r.i + 1) := by rw [b1']
        rw [e2] at hc
        by_cases h45 : abK s 45 (abI s 43 (r.i + 1)) = true
        · rw [if_neg (by simp [h45])]
          obtain ⟨c1, c2⟩ := hc.1 h45
          have h3 : st3 s p = { p with i := abI s 45 (abI s 43 (r.i + 1)) } := by rw [st3, c1, b1']
          have hx : stX s p up d = ⟨byte s r.i, r.i, up, d, 0, 0, abS s 43 (r.i + 1), abS s 45 (abI s 43 (r.i + 1))⟩ := by
            rw [stX, (tk_yes (s := s) h.bad hok).1, e1, e2, b2, c2, h.i]
          have hI4 : Inv s (st4 s p up d) := by
            have h1 := tkP_inv hI 65 90
            have h2 := acP_inv h1.1 43 (by decide)
            have h3' := acP_inv h2.1 45 (by decide)
            obtain ⟨a1, a2, a3, a4, a5⟩ := h3'.1
            refine ⟨a1, ?_, a3, a4, a5⟩
            have l1 := h2.2
            have l2 : (acP s 43 (tkP s 65 90 p)).i ≤ (st3 s p).i := h3'.2
            have := hI.st
            show (p.st ++ [_]).length ≤ (st3 s p).i
            rw [List.length_append]
            simp only [List.length_cons, List.length_nil]
            have := h.i
            omega
          have hM4 : Mt (st4 s p up d) (rs3 s r.st.length (rs1 s r up d)) := by
            refine ⟨?_, ?_, ?_, ?_, ?_, ?_⟩
            · show (st3 s p).i = _; rw [h3]; rfl
            · show (st3 s p).bad < 0; rw [h3]; exact h.bad
            · show (st3 s p).st ++ [stX s p up d] = _
              rw [h3, hx, h.st]
              show _ = (((r.st ++ [_]).modify r.st.length _).modify r.st.length _).map toR
              rw [modify_last, modify_last]
              simp [toR]
              exact ⟨rfl, rfl⟩
            · show (st3 s p).tr = _; rw [h3]; exact h.tr
            · show (st3 s p).re = _; rw [h3]; exact h.re
            · show (st3 s p).ma = _; rw [h3]; exact h.ma
          have hR3 : RdInv s (rs3 s r.st.length (rs1 s r up d)) := by
            have b1 := abI_bd s 43 (r.i + 1) (by decide) hin
            have b2 := abI_bd s 45 (abI s 43 (r.i + 1)) (by decide) b1.2
            obtain ⟨a1, a2, a3⟩ := hR
            refine ⟨b2.2, ?_, ?_⟩
            · show (((r.st ++ [_]).modify _ _).modify _ _).length ≤ abI s 45 (abI s 43 (r.i + 1))
              simp only [List.length_modify, List.length_append, List.length_cons, List.length_nil]
              omega
            · show r.tr.length ≤ abI s 45 (abI s 43 (r.i + 1))
              omega
          have hi3 : r.i + 1 ≤ (rs3 s r.st.length (rs1 s r up d)).i := by
            have b1 := abI_bd s 43 (r.i + 1) (by decide) hin
            have b2 := abI_bd s 45 (abI s 43 (r.i + 1)) (by decide) b1.2
            show r.i + 1 ≤ abI s 45 (abI s 43 (r.i + 1))
            omega
          generalize st4 s p up d = p4 at *
          generalize rs3 s r.st.length (rs1 s r up d) = r3 at *
          have hG : ∀ q, Inv s q → q.bad < 0 → r3.i + 1 ≤ q.i → Goes s q (stF s f q (r.st.length : Nat) (d + 1)) := fun q hq hqb hqi => stF_goes s f q _ _ hq hqb (by omega)
          have hg : ∀ q, RdInv s q → r3.i + 1 ≤ q.i → (rsF s f q (r.st.length : Nat) (d + 1)).1 = true → GoesR s q (rsF s f q (r.st.length : Nat) (d + 1)).2 := fun q hq hqi hqk => rsF_goes s f q _ _ hq (by omega) hqk
          have hN0 : ∀ q, isN (byte s q.i) = false → r3.i + 1 ≤ s.size → rsF s f q (r.st.length : Nat) (d + 1) = (false, q) := by
            intro q hq hlt
            cases f with
            | zero => omega
            | succ f => simp only [rsF]; rw [if_pos hq]
          have hA : ∀ p' r', Mt p' r' → Inv s p' → RdInv s r' → r3.i + 1 ≤ r'.i → Ag (stF s f p' (r.st.length : Nat) (d + 1)) (rsF s f r' (r.st.length : Nat) (d + 1)) := fun p' r' hm hi hr hl => st_eq s f p' r' _ _ hm hi hr (by omega)
          have h5 : Ag (st5 s (fun q => stF s f q (r.st.length : Nat) (d + 1)) r.st.length p4) (rs4 s (fun q => rsF s f q (r.st.length : Nat) (d + 1)) r.st.length r3) := by
            have hK : ∀ k, Mt (setK p4 r.st.length k) (setKP r3 r.st.length k) := fun k => ⟨hM4.i, hM4.bad, by
              show p4.st.modify _ _ = (r3.st.modify _ _).map toR
              rw [map_modify toR _ (fun x => { x with kind := k }) (fun _ => rfl), hM4.st], hM4.tr, hM4.re, hM4.ma⟩
            have hRK : ∀ k, RdInv s (setKP r3 r.st.length k) := fun k => ⟨hR3.1, by simp [setKP]; exact hR3.2.1, hR3.2.2⟩
            unfold st5 rs4
            rw [ahd_good hM4.bad, hM4.i]
            by_cases e40 : byte s r3.i = 40
            · have hlt := sg_in s 40 r3.i (by decide) e40
              rw [if_pos e40, if_pos e40]
              exact inP_eq s _ _ 41 (by decide) (by decide) 1 _ _ (hK 1) (setK_inv hI4 _ _) (hRK 1) hlt hG hg hA (fun q hq => hN0 q hq hlt)
            · rw [if_neg e40, if_neg e40]
              by_cases e91 : byte s r3.i = 91
              · have hlt := sg_in s 91 r3.i (by decide) e91
                rw [if_pos e91, if_pos e91]
                exact inP_eq s _ _ 93 (by decide) (by decide) 2 _ _ (hK 2) (setK_inv hI4 _ _) (hRK 2) hlt hG hg hA (fun q hq => hN0 q hq hlt)
              · rw [if_neg e91, if_neg e91]
                exact ⟨fun _ => hM4, fun e => (by cases e)⟩
          generalize st5 s (fun q => stF s f q (r.st.length : Nat) (d + 1)) r.st.length p4 = p5 at *
          generalize rs4 s (fun q => rsF s f q (r.st.length : Nat) (d + 1)) r.st.length r3 = q4 at *
          unfold rs5
          by_cases hok4 : q4.1 = false
          · rw [if_pos hok4]
            have hb := h5.2 hok4
            refine ⟨fun e => (by rw [hok4] at e; cases e), fun _ => ?_⟩
            rw [trL, trF_bad s _ _ _ (by show 0 ≤ p5.bad; rw [hb]; omega)]
            exact hb
          · rw [if_neg hok4]
            have hM5 := h5.1 (by simpa using hok4)
            refine trL_eq s r.st.length _ _ ⟨hM5.i, hM5.bad, ?_, hM5.tr, hM5.re, hM5.ma⟩
            show p5.st.modify _ _ = (q4.2.st.modify _ _).map toR
            have hl5 : p5.st.length = q4.2.st.length := by rw [hM5.st]; simp
            rw [map_modify toR _ (fun x => { x with end_ := q4.2.st.length }) (fun _ => rfl), hM5.st]
            simp
        · have h45' : abK s 45 (abI s 43 (r.i + 1)) = false := by simpa using h45
          rw [if_pos h45']
          have hb : (st3 s p).bad = (abI s 45 (abI s 43 (r.i + 1)) : Int) := hc.2 h45'
          refine ⟨fun e => (by cases e), fun _ => ?_⟩
          rw [st_bad s _ _ _ (by show 0 ≤ (st3 s p).bad; rw [hb]; omega)]
          exact hb
      · have h43' : abK s 43 (r.i + 1) = false := by simpa using h43
        rw [if_pos h43']
        have hb0 := ha.2 h43'
        have hb : (st3 s p).bad = (abI s 43 (r.i + 1) : Int) := by
          rw [st3, (ac_bad s 45 (by decide) _ (by rw [hb0]; omega)).1]; exact hb0
        refine ⟨fun e => (by cases e), fun _ => ?_⟩
        rw [st_bad s _ _ _ (by show 0 ≤ (st3 s p).bad; rw [hb]; omega)]
        exact hb
    · have hNf : isN (byte s r.i) = false := by simpa using hN
      have hb := tkP_no s 65 90 p h.bad (by rw [tkOk_isN, h.i]; exact hNf)
      rw [if_pos hNf, if_pos (by rw [hb]; omega)]
      exact ⟨fun e => (by cases e), fun _ => by rw [hb, h.i]⟩
end Go.Proofs.Ytmolmbeeoecnfaa
