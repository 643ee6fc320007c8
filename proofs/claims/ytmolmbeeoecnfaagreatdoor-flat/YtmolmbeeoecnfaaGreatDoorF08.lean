/- Own work: Pure5, Rd4. -/
import Derived.Test.YtmolmbeeoecnfaaGreatDoorF06
import Derived.Test.YtmolmbeeoecnfaaGreatDoorF07
/- Own work: the program's reader as plain functions. -/
namespace Go.Proofs.YtmolmbeeoecnfaaGreatDoor
open Go.RowKit Go.BigFrame
set_option linter.unusedVariables false
set_option linter.unusedSimpArgs false

theorem rtP_bd (s : ByteArray) (own i : Nat) (h : i < s.size) : (rtP s own i).1 = true → i < (rtP s own i).2.1 ∧ (rtP s own i).2.1 ≤ s.size := by
 unfold rtP
 simp only
 split
 ·intro h; cases h
 ·rename_i hE
  have h1 := isE_b s (i + 1) (by simpa using hE)
  have h2 := rcP_bd s (i + 2) [] h1
  split
  ·intro h; cases h
  ·split
   ·intro h; cases h
   ·split
    ·intro h; cases h
    ·rename_i hN
     have h3 := isN_b s _ (by simpa using hN)
     have h4 := rmI_bd s ((rcP s (i + 2) []).2.1 + 2) h3
     have h5 := dend_ge s (rmI s ((rcP s (i + 2) []).2.1 + 2))
     have h6 := dend_le s (rmI s ((rcP s (i + 2) []).2.1 + 2)) h4.2
     intro _
     simp only
     omega

def rtF (s : ByteArray) (own : Nat) : Nat → Rn → Bool × Rn
 | 0, r => (true, r)
 | f + 1, r => if byte s r.i = 47 then (if (rtP s own r.i).1 = true then rtF s own f { r with i := (rtP s own r.i).2.1, tr := r.tr ++ [(rtP s own r.i).2.2] } else (false, { r with i := (rtP s own r.i).2.1, tr := r.tr ++ [(rtP s own r.i).2.2] })) else (true, r)
def rtL (s : ByteArray) (own : Nat) (r : Rn) : Bool × Rn := rtF s own (s.size - r.i) r

theorem rtF_more (s : ByteArray) (own : Nat) : ∀ (f g : Nat) (r : Rn), s.size - r.i ≤ f → s.size - r.i ≤ g → rtF s own f r = rtF s own g r
 | 0, 0, _, _, _ => rfl
 | 0, g + 1, r, h1, _ => by
  simp only [rtF]
  split
  ·have := sg_in s 47 r.i (by decide) ‹_›; omega
  ·rfl
 | f + 1, 0, r, _, h2 => by
  simp only [rtF]
  split
  ·have := sg_in s 47 r.i (by decide) ‹_›; omega
  ·rfl
 | f + 1, g + 1, r, h1, h2 => by
  simp only [rtF]
  split
  ·have h3 := sg_in s 47 r.i (by decide) ‹_›
   split
   ·have h4 := rtP_bd s own r.i h3 ‹_›
    exact rtF_more s own f g _ (by simp only; omega) (by simp only; omega)
   ·rfl
  ·rfl
theorem rtL_go (s : ByteArray) (own : Nat) (r : Rn) (h : byte s r.i = 47) (h2 : (rtP s own r.i).1 = true) : rtL s own r = rtL s own { r with i := (rtP s own r.i).2.1, tr := r.tr ++ [(rtP s own r.i).2.2] } := by
 have h3 := sg_in s 47 r.i (by decide) h
 have h4 := rtP_bd s own r.i h3 h2
 unfold rtL
 rw [show s.size - r.i = (s.size - (r.i + 1)) + 1 by omega]
 simp only [rtF]
 rw [if_pos h, if_pos h2]
 exact rtF_more s own _ _ _ (by simp only; omega) (by simp only; omega)
theorem rtL_bad (s : ByteArray) (own : Nat) (r : Rn) (h : byte s r.i = 47) (h2 : (rtP s own r.i).1 = false) : rtL s own r = (false, { r with i := (rtP s own r.i).2.1, tr := r.tr ++ [(rtP s own r.i).2.2] }) := by
 have h3 := sg_in s 47 r.i (by decide) h
 unfold rtL
 rw [show s.size - r.i = (s.size - (r.i + 1)) + 1 by omega]
 simp only [rtF]
 rw [if_pos h, if_neg (by simp [h2])]
theorem rtL_stop (s : ByteArray) (own : Nat) (r : Rn) (h : byte s r.i ≠ 47) : rtL s own r = (true, r) := by
 unfold rtL
 cases s.size - r.i with
 | zero => rfl
 | succ n => simp [rtF, h]

structure GoesR (s : ByteArray) (r q : Rn) : Prop where
 inv : RdInv s q
 i : r.i < q.i
 st : r.st <+: q.st

theorem rtF_ok (s : ByteArray) (own : Nat) : ∀ (f : Nat) (r : Rn), RdInv s r → (rtF s own f r).1 = true → RdInv s (rtF s own f r).2 ∧ r.i ≤ (rtF s own f r).2.i ∧ (rtF s own f r).2.st = r.st
 | 0, r, h, _ => ⟨h, Nat.le_refl _, rfl⟩
 | f + 1, r, h, hk => by
  simp only [rtF] at hk ⊢
  split at hk
  ·rename_i h47
   have h3 := sg_in s 47 r.i (by decide) h47
   rw [if_pos h47]
   split at hk
   ·rename_i hok
    have h4 := rtP_bd s own r.i h3 hok
    rw [if_pos hok]
    obtain ⟨a1, a2, a3⟩ := h
    have hi : RdInv s { r with i := (rtP s own r.i).2.1, tr := r.tr ++ [(rtP s own r.i).2.2] } := ⟨h4.2, by simp only; omega, by simp only [List.length_append, List.length_cons, List.length_nil]; omega⟩
    have hr := rtF_ok s own f _ hi hk
    exact ⟨hr.1, by have := hr.2.1; simp only at this; omega, hr.2.2⟩
   ·cases hk
  ·rename_i h47
   rw [if_neg h47]
   exact ⟨h, Nat.le_refl _, rfl⟩

def riF (s : ByteArray) (g : Rn → Bool × Rn) : Nat → Nat → Rn → Bool × Nat × Rn
 | 0, n, r => (true, n, r)
 | f + 1, n, r => if isN (byte s r.i) = true then (if (g r).1 = true then riF s g f (n + 1) (g r).2 else (false, n, (g r).2)) else (true, n, r)
def riL (s : ByteArray) (g : Rn → Bool × Rn) (n : Nat) (r : Rn) : Bool × Nat × Rn := riF s g (s.size - r.i) n r
def riP (s : ByteArray) (g : Rn → Bool × Rn) (fin : UInt8) (least : Nat) (r : Rn) : Bool × Rn :=
 if (riL s g 0 { r with i := r.i + 1 }).1 = false then (false, (riL s g 0 { r with i := r.i + 1 }).2.2)
 else if (riL s g 0 { r with i := r.i + 1 }).2.1 < least ∨ byte s (riL s g 0 { r with i := r.i + 1 }).2.2.i ≠ fin then (false, (riL s g 0 { r with i := r.i + 1 }).2.2)
 else (true, { (riL s g 0 { r with i := r.i + 1 }).2.2 with i := (riL s g 0 { r with i := r.i + 1 }).2.2.i + 1 })

theorem riF_more (s : ByteArray) (g : Rn → Bool × Rn) (m : Nat) (hg : ∀ q, RdInv s q → m ≤ q.i → (g q).1 = true → GoesR s q (g q).2) : ∀ (f f' n : Nat) (r : Rn), RdInv s r → m ≤ r.i → s.size - r.i ≤ f → s.size - r.i ≤ f' → riF s g f n r = riF s g f' n r
 | 0, 0, _, _, _, _, _, _ => rfl
 | 0, f' + 1, n, r, hi, hm, h1, _ => by
  simp only [riF]
  split
  ·have := isN_b s r.i ‹_›; omega
  ·rfl
 | f + 1, 0, n, r, hi, hm, _, h2 => by
  simp only [riF]
  split
  ·have := isN_b s r.i ‹_›; omega
  ·rfl
 | f + 1, f' + 1, n, r, hi, hm, h1, h2 => by
  simp only [riF]
  split
  ·split
   ·have hk := hg r hi hm ‹_›
    have := hk.i
    exact riF_more s g m hg f f' _ _ hk.inv (by omega) (by omega) (by omega)
   ·rfl
  ·rfl
theorem riL_go (s : ByteArray) (g : Rn → Bool × Rn) (m n : Nat) (hg : ∀ q, RdInv s q → m ≤ q.i → (g q).1 = true → GoesR s q (g q).2) (r : Rn) (hi : RdInv s r) (hm : m ≤ r.i) (h : isN (byte s r.i) = true) (h2 : (g r).1 = true) : riL s g n r = riL s g (n + 1) (g r).2 := by
 have h3 := isN_b s r.i h
 have hk := hg r hi hm h2
 have := hk.i
 unfold riL
 rw [show s.size - r.i = (s.size - (r.i + 1)) + 1 by omega]
 simp only [riF]
 rw [if_pos h, if_pos h2]
 exact riF_more s g m hg _ _ _ _ hk.inv (by omega) (by omega) (by omega)
theorem riL_bad (s : ByteArray) (g : Rn → Bool × Rn) (n : Nat) (r : Rn) (h : isN (byte s r.i) = true) (h2 : (g r).1 = false) : riL s g n r = (false, n, (g r).2) := by
 have h3 := isN_b s r.i h
 unfold riL
 rw [show s.size - r.i = (s.size - (r.i + 1)) + 1 by omega]
 simp only [riF]
 rw [if_pos h, if_neg (by simp [h2])]
theorem riL_stop (s : ByteArray) (g : Rn → Bool × Rn) (n : Nat) (r : Rn) (h : isN (byte s r.i) = false) : riL s g n r = (true, n, r) := by
 unfold riL
 cases s.size - r.i with
 | zero => rfl
 | succ n => simp [riF, h]
theorem riF_ok (s : ByteArray) (g : Rn → Bool × Rn) (m : Nat) (hg : ∀ q, RdInv s q → m ≤ q.i → (g q).1 = true → GoesR s q (g q).2) : ∀ (f n : Nat) (r : Rn), RdInv s r → m ≤ r.i → (riF s g f n r).1 = true → RdInv s (riF s g f n r).2.2 ∧ r.i ≤ (riF s g f n r).2.2.i ∧ r.st <+: (riF s g f n r).2.2.st
 | 0, n, r, h, hm, _ => ⟨h, Nat.le_refl _, List.prefix_refl _⟩
 | f + 1, n, r, h, hm, hk => by
  simp only [riF] at hk ⊢
  split at hk
  ·rename_i hN
   rw [if_pos hN]
   split at hk
   ·rename_i hok
    rw [if_pos hok]
    have hq := hg r h hm hok
    have := hq.i
    have hr := riF_ok s g m hg f (n + 1) (g r).2 hq.inv (by omega) hk
    exact ⟨hr.1, by omega, List.IsPrefix.trans hq.st hr.2.2⟩
   ·cases hk
  ·rename_i hN
   rw [if_neg hN]
   exact ⟨h, Nat.le_refl _, List.prefix_refl _⟩
theorem riP_ok (s : ByteArray) (g : Rn → Bool × Rn) (fin : UInt8) (h0 : fin ≠ 0) (least : Nat) (r : Rn) (hi : RdInv s r) (hn : r.i < s.size) (hg : ∀ q, RdInv s q → r.i + 1 ≤ q.i → (g q).1 = true → GoesR s q (g q).2) (hk : (riP s g fin least r).1 = true) :
  GoesR s r (riP s g fin least r).2 := by
 have h1 : RdInv s { r with i := r.i + 1 } := ⟨hn, by have := hi.2.1; simp only; omega, by have := hi.2.2; simp only; omega⟩
 unfold riP at hk ⊢
 split at hk
 ·cases hk
 ·rename_i hL
  rw [if_neg hL]
  split at hk
  ·cases hk
  ·rename_i hc
   rw [if_neg hc]
   have h9 : (riL s g 0 { r with i := r.i + 1 }).1 = true := by simpa using hL
   have h2 := riF_ok s g (r.i + 1) hg (s.size - (r.i + 1)) 0 { r with i := r.i + 1 } h1 (Nat.le_refl _) h9
   have e : riL s g 0 { r with i := r.i + 1 } = riF s g (s.size - (r.i + 1)) 0 { r with i := r.i + 1 } := rfl
   rw [← e] at h2
   have hb : byte s (riL s g 0 { r with i := r.i + 1 }).2.2.i = fin := by
    by_cases e : byte s (riL s g 0 { r with i := r.i + 1 }).2.2.i = fin
    ·exact e
    ·exact absurd (Or.inr e) hc
   have h3 := sg_in s fin _ h0 hb
   obtain ⟨⟨a1, a2, a3⟩, b1, b2⟩ := h2
   simp only at b1
   exact ⟨⟨h3, by simp only; omega, by simp only; omega⟩, by simp only; omega, b2⟩

def setKP (r : Rn) (own k : Nat) : Rn := { r with st := r.st.modify own fun x => { x with kind := k } }
def setEP (r : Rn) (own n : Nat) : Rn := { r with st := r.st.modify own fun x => { x with end_ := n } }
def setAP (r : Rn) (own : Nat) (a b : ByteArray) : Rn := { r with st := (r.st.modify own fun x => { x with enter := a }).modify own fun x => { x with leave := b } }

def rs1 (s : ByteArray) (r : Rn) (outer : Int) (depth : Nat) : Rn := { r with i := r.i + 1, st := r.st ++ [⟨byte s r.i, r.i, depth, 0, outer, 0, ⟨#[]⟩, ⟨#[]⟩, false, false⟩] }
def rs3 (s : ByteArray) (own : Nat) (q : Rn) : Rn := setAP { q with i := abI s 45 (abI s 43 q.i) } own (abS s 43 q.i) (abS s 45 (abI s 43 q.i))
def rs4 (s : ByteArray) (g : Rn → Bool × Rn) (own : Nat) (q : Rn) : Bool × Rn :=
 if byte s q.i = 40 then riP s g 41 1 (setKP q own 1) else if byte s q.i = 91 then riP s g 93 2 (setKP q own 2) else (true, q)
def rs5 (s : ByteArray) (own : Nat) (q : Bool × Rn) : Bool × Rn := if q.1 = false then q else rtL s own (setEP q.2 own q.2.st.length)
def rsF (s : ByteArray) : Nat → Rn → Int → Nat → Bool × Rn
 | 0, r, _, _ => (true, r)
 | f + 1, r, outer, depth =>
  if isN (byte s r.i) = false then (false, r)
  else if abK s 43 (r.i + 1) = false then (false, { rs1 s r outer depth with i := abI s 43 (r.i + 1) })
  else if abK s 45 (abI s 43 (r.i + 1)) = false then (false, { rs1 s r outer depth with i := abI s 45 (abI s 43 (r.i + 1)) })
  else rs5 s r.st.length (rs4 s (fun q => rsF s f q (r.st.length : Nat) (depth + 1)) r.st.length (rs3 s r.st.length (rs1 s r outer depth)))

theorem abI_bd (s : ByteArray) (sg : UInt8) (i : Nat) (h0 : sg ≠ 0) (h : i ≤ s.size) : i ≤ abI s sg i ∧ abI s sg i ≤ s.size := by
 unfold abI; split
 ·have h1 := sg_in s sg i h0 ‹_›
  have h2 := dend_ge s (i + 1)
  have h3 := dend_le s (i + 1) h1
  omega
 ·omega

theorem rsF_goes (s : ByteArray) : ∀ (f : Nat) (r : Rn) (outer : Int) (depth : Nat), RdInv s r → s.size - r.i < f → (rsF s f r outer depth).1 = true → GoesR s r (rsF s f r outer depth).2
 | 0, r, _, _, h, hf, _ => by omega
 | f + 1, r, outer, depth, h, hf, hk => by
  simp only [rsF] at hk ⊢
  split at hk
  ·cases hk
  ·rename_i hN
   rw [if_neg hN]
   have hN' : isN (byte s r.i) = true := by simpa using hN
   have hin := isN_b s r.i hN'
   split at hk
   ·cases hk
   ·rename_i h43
    rw [if_neg h43]
    split at hk
    ·cases hk
    ·rename_i h45
     rw [if_neg h45]
     have b1 := abI_bd s 43 (r.i + 1) (by decide) hin
     have b2 := abI_bd s 45 (abI s 43 (r.i + 1)) (by decide) b1.2
     obtain ⟨a1, a2, a3⟩ := h
     have hr3 : RdInv s (rs3 s r.st.length (rs1 s r outer depth)) := by
      refine ⟨b2.2, ?_, ?_⟩
      ·show (((r.st ++ [_]).modify _ _).modify _ _).length ≤ abI s 45 (abI s 43 (r.i + 1))
       simp only [List.length_modify, List.length_append, List.length_cons, List.length_nil]
       omega
      ·show r.tr.length ≤ abI s 45 (abI s 43 (r.i + 1))
       omega
     have s3 : r.st <+: (rs3 s r.st.length (rs1 s r outer depth)).st := prefix_modify _ _ _ _ (prefix_modify _ _ _ _ (List.prefix_append _ _) (Nat.le_refl _)) (Nat.le_refl _)
     have i3 : r.i + 1 ≤ (rs3 s r.st.length (rs1 s r outer depth)).i := by show r.i + 1 ≤ abI s 45 (abI s 43 (r.i + 1)); omega
     generalize rs3 s r.st.length (rs1 s r outer depth) = q3 at *
     have hG : ∀ q, RdInv s q → q3.i + 1 ≤ q.i → (rsF s f q (r.st.length : Nat) (depth + 1)).1 = true → GoesR s q (rsF s f q (r.st.length : Nat) (depth + 1)).2 := fun q hq hqi hqk => rsF_goes s f q _ _ hq (by omega) hqk
     have h4 : (rs4 s (fun q => rsF s f q (r.st.length : Nat) (depth + 1)) r.st.length q3).1 = true → RdInv s (rs4 s (fun q => rsF s f q (r.st.length : Nat) (depth + 1)) r.st.length q3).2 ∧ q3.i ≤ (rs4 s (fun q => rsF s f q (r.st.length : Nat) (depth + 1)) r.st.length q3).2.i ∧ r.st <+: (rs4 s (fun q => rsF s f q (r.st.length : Nat) (depth + 1)) r.st.length q3).2.st := by
      unfold rs4
      intro hk4
      split
      ·rename_i hc
       rw [if_pos hc] at hk4
       have hh := riP_ok s _ 41 (by decide) 1 (setKP q3 r.st.length 1) ⟨hr3.1, by simp [setKP]; exact hr3.2.1, hr3.2.2⟩ (sg_in s 40 q3.i (by decide) hc) hG hk4
       exact ⟨hh.inv, Nat.le_of_lt hh.i, List.IsPrefix.trans (prefix_modify _ _ _ _ s3 (Nat.le_refl _)) hh.st⟩
      ·rename_i hc
       rw [if_neg hc] at hk4
       split
       ·rename_i hc2
        rw [if_pos hc2] at hk4
        have hh := riP_ok s _ 93 (by decide) 2 (setKP q3 r.st.length 2) ⟨hr3.1, by simp [setKP]; exact hr3.2.1, hr3.2.2⟩ (sg_in s 91 q3.i (by decide) hc2) hG hk4
        exact ⟨hh.inv, Nat.le_of_lt hh.i, List.IsPrefix.trans (prefix_modify _ _ _ _ s3 (Nat.le_refl _)) hh.st⟩
       ·exact ⟨hr3, Nat.le_refl _, s3⟩
     generalize rs4 s (fun q => rsF s f q (r.st.length : Nat) (depth + 1)) r.st.length q3 = q4 at *
     unfold rs5 at hk ⊢
     split at hk
     ·rename_i e; rw [e] at hk; cases hk
     ·rename_i e
      rw [if_neg e]
      obtain ⟨c1, c2, c3⟩ := h4 (by simpa using e)
      have hE : RdInv s (setEP q4.2 r.st.length q4.2.st.length) := ⟨c1.1, by simp [setEP]; exact c1.2.1, c1.2.2⟩
      have hz := rtF_ok s r.st.length (s.size - (setEP q4.2 r.st.length q4.2.st.length).i) _ hE hk
      refine ⟨hz.1, ?_, ?_⟩
      ·have := hz.2.1
       have e2 : (setEP q4.2 r.st.length q4.2.st.length).i = q4.2.i := rfl
       show r.i < (rtF s r.st.length _ _).2.i
       omega
      ·show r.st <+: (rtF s r.st.length _ _).2.st
       rw [hz.2.2]
       exact prefix_modify _ _ _ _ c3 (Nat.le_refl _)

def RPost2 (s : ByteArray) (rb b : Nat) (ws : Ws) (w : World) (q : Bool × Rn) (e : Ending) (w' : World) : Prop := RPost s rb b ws w q.1 q.2.i q.2 e w'

set_option maxRecDepth 100000 in
set_option maxHeartbeats 1000000 in
theorem readTranss_any (w : World) (rb b : Nat) (s : ByteArray) (own : Nat) (r : Rn) (ws : Ws) (hp : RdV w rb b s r ws) (hs : s.size ≤ 1000000) (hv : RdInv s r) :
    Calls Tryz.prog 65 #[.pointer (some ⟨rb, 0, none⟩), .pointer (some ⟨b, 0, none⟩), .int .i64 own] w (RPost2 s rb b ws w (rtL s own r)) := by
  go_enter Tryz.func65, Tryz.ntmps65
  go_wp2_with fail
  go_loopg [7] (s.size + 1 - r.i) (fun gk v7 wr => ∃ (q : Rn) (wq : Ws), RdV wr rb b s q wq ∧ EvR rb b ws wq w wr ∧ RdInv s q ∧ Hid (rtL s own r = rtL s own q) ∧ s.size + 1 - q.i ≤ gk)
  case atStart => exact ⟨r, ws, hp, EvR.refl _ _ _ _, hv, rfl, Nat.le_refl _⟩
  case round =>
    obtain ⟨q, wq, hpq, heq, hiq, HT, hgk⟩ := hrel
    go_wp2_with fail
    refine (next_any _ rb s _ hpq.blk).mono ?_
    rintro e w1 ⟨rfl, n1, rfl⟩
    have hp1 := hpq.drewN n1
    have he1 := heq.drewN n1
    generalize wr.drewN n1 = W1 at hp1 he1
    clear hpq heq
    by_cases h47 : byte s q.i = 47
    · have hin := sg_in s 47 q.i (by decide) h47
      have H47 : Hid (byte s q.i = 47) := h47
      rw [h47]
      clear h47
      go_wp2_with fail
      refine (readTrans_any _ rb b s own q wq hp1 hs hiq hin).mono ?_
      rintro e w2 ⟨rfl, hyes, hnot⟩
      by_cases hok : (rtP s own q.i).1 = true
      · obtain ⟨ws2, hp2, he2⟩ := hyes hok
        have hbd := rtP_bd s own q.i hin hok
        have HT2 : Hid _ := HT.out.trans (rtL_go s own q H47.out hok)
        have hi2 : RdInv s { q with i := (rtP s own q.i).2.1, tr := q.tr ++ [(rtP s own q.i).2.2] } := ⟨hbd.2, by have := hiq.2.1; simp only; omega, by have := hiq.2.2; simp only [List.length_append, List.length_cons, List.length_nil]; omega⟩
        have HBD : Hid _ := hbd
        rw [hok]
        clear hyes hnot hok hbd
        go_wp2_with fail
        go_roundg (s.size + 1 - (rtP s own q.i).2.1)
        case measure => have := HBD.out.1; omega
        case rel => exact ⟨_, ws2, hp2, he1.trans he2, hi2, HT2, Nat.le_refl _⟩
      · have hok' : (rtP s own q.i).1 = false := by simpa using hok
        obtain ⟨hb2, hf2, hq2⟩ := hnot hok'
        have HT2 : Hid _ := HT.out.trans (rtL_bad s own q H47.out hok')
        have HB2 : Hid _ := hb2
        rw [hok']
        clear hyes hnot hok hok' hb2
        go_wp2_with fail
        go_ret
        show RPost2 s rb b ws w (rtL s own r) _ _
        rw [HT2.out]
        exact ⟨rfl, fun h => (by cases h), fun _ => ⟨HB2.out, he1.fr.thenr hf2 (fun i hi ho => he1.own i hi ho), hq2⟩⟩
    · have hne : (((byte s q.i).toNat : Int) == 47) = false := by
        rw [beq_eq_false_iff_ne]; intro h; exact h47 (UInt8.toNat_inj.1 (by show _ = 47; omega))
      have HT2 : Hid _ := HT.out.trans (rtL_stop s own q h47)
      clear h47
      go_wp2_with fail
      go_ret
      show RPost2 s rb b ws w (rtL s own r) _ _
      rw [HT2.out]
      exact ⟨rfl, fun _ => ⟨wq, hp1, he1⟩, fun h => (by cases h)⟩

def RsC (s : ByteArray) (f : Nat) : Prop := ∀ (w : World) (rb b : Nat) (r : Rn) (ws : Ws) (outer : Int) (depth : Nat) (dI : Int), dI = depth → RdV w rb b s r ws → RdInv s r → depth ≤ r.i + 1 → s.size - r.i < f →
 Calls Tryz.prog 40 #[.pointer (some ⟨rb, 0, none⟩), .pointer (some ⟨b, 0, none⟩), .int .i64 outer, .int .i64 dI] w (RPost2 s rb b ws w (rsF s f r outer depth))

set_option maxRecDepth 100000 in
set_option maxHeartbeats 1000000 in
theorem readInner_any (s : ByteArray) (hs : s.size ≤ 1000000) (f : Nat) (hS : RsC s f) (w : World) (rb b : Nat) (r : Rn) (ws : Ws) (own depth least : Nat) (mI : Int) (hm : mI = least) (fin : UInt8) (lI : Int) (hl' : lI = fin.toNat) (h0 : fin ≠ 0)
  (hp : RdV w rb b s r ws) (hv : RdInv s r) (hn : r.i < s.size) (hd : depth ≤ r.i) (hl : least ≤ 2) (hf : s.size - (r.i + 1) < f) :
  Calls Tryz.prog 80 #[.pointer (some ⟨rb, 0, none⟩), .pointer (some ⟨b, 0, none⟩), .int .i64 own, .int .i64 depth, .int .i64 mI, .int .u8 lI] w (RPost2 s rb b ws w (riP s (fun q => rsF s f q (own : Nat) (depth + 1)) fin least r)) := by
 subst hm
 subst hl'
 obtain ⟨c0, c1, hfz⟩ := hp.blk.cells
 have hz1 := hfz 1
 clear hfz
 have HS : Hid (RsC s f) := hS
 clear hS
 have HG : Hid (∀ q, RdInv s q → r.i + 1 ≤ q.i → (rsF s f q (own : Nat) (depth + 1)).1 = true → GoesR s q (rsF s f q (own : Nat) (depth + 1)).2) := fun q hq hqi hqk => rsF_goes s f q _ _ hq (by omega) hqk
 have hp1 := hp.step (r.i + 1) rfl
 have he1 := (EvR.refl rb b ws w).setOwn 1 (.int .i64 ((r.i : Int) + 1))
 have hv1 : RdInv s { r with i := r.i + 1 } := ⟨hn, by have := hv.2.1; simp only; omega, by have := hv.2.2; simp only; omega⟩
 go_enter Tryz.func80, Tryz.ntmps80
 go_wp2_with fail
 generalize w.setCell ⟨rb, 1, none⟩ (.int .i64 ((r.i : Int) + 1)) = W0 at hp1 he1 ⊢
 clear c0 c1 hz1
 go_loopg [13] (s.size + 1 - (r.i + 1)) (fun gk vn wr => ∃ (q : Rn) (wq : Ws) (n : Nat), RdV wr rb b s q wq ∧ EvR rb b ws wq w wr ∧ RdInv s q ∧ r.i + 1 ≤ q.i ∧ vn = .int .i64 n ∧ n ≤ q.i ∧ Hid (riL s (fun q => rsF s f q (own : Nat) (depth + 1)) 0 { r with i := r.i + 1 } = riL s (fun q => rsF s f q (own : Nat) (depth + 1)) n q) ∧ s.size + 1 - q.i ≤ gk)
 case atStart => exact ⟨_, ws, 0, hp1, he1, hv1, Nat.le_refl _, rfl, Nat.zero_le _, rfl, Nat.le_refl _⟩
 case round =>
  clear hp1 he1 hv1
  obtain ⟨q, wq, n, hpq, heq, hiq, hqi, rfl, hnq, HT, hgk⟩ := hrel
  have hqs := hiq.1
  go_wp2_with fail
  refine (next_any _ rb s _ hpq.blk).mono ?_
  rintro e w1 ⟨rfl, n1, rfl⟩
  have hp1 := hpq.drewN n1
  have he1 := heq.drewN n1
  generalize wr.drewN n1 = W1 at hp1 he1
  clear hpq heq
  go_wp2_with fail
  refine (isName_any _ _).mono ?_
  rintro e w2 ⟨rfl, rfl⟩
  by_cases hN : isN (byte s q.i) = true
  ·have hin := isN_b s q.i hN
   have HN : Hid (isN (byte s q.i) = true) := hN
   rw [hN]
   clear hN
   go_wp2_with fail
   refine (HS.out _ rb b q wq own (depth + 1) ((depth : Int) + 1) (by omega) hp1 hiq (by omega) (by omega)).mono ?_
   rintro e w3 ⟨rfl, hyes, hnot⟩
   by_cases hok : (rsF s f q (own : Nat) (depth + 1)).1 = true
   ·obtain ⟨ws3, hp3, he3⟩ := hyes hok
    have hgo := HG.out q hiq hqi hok
    have HT2 : Hid _ := HT.out.trans (riL_go s (fun q => rsF s f q (own : Nat) (depth + 1)) (r.i + 1) n HG.out q hiq hqi HN.out hok)
    have HGO : Hid _ := hgo
    rw [hok]
    clear hyes hnot hok hgo
    go_wp2_with fail
    have hg2 := HGO.out.i
    have hg3 := HGO.out.inv.1
    go_roundg (s.size + 1 - (rsF s f q (own : Nat) (depth + 1)).2.i)
    case measure => omega
    case rel => exact ⟨_, ws3, n + 1, hp3, he1.trans he3, HGO.out.inv, by omega, by go_num, by omega, HT2, Nat.le_refl _⟩
   ·have hok' : (rsF s f q (own : Nat) (depth + 1)).1 = false := by simpa using hok
    obtain ⟨hb3, hf3, hq3⟩ := hnot hok'
    have HT2 : Hid _ := HT.out.trans (riL_bad s (fun q => rsF s f q (own : Nat) (depth + 1)) n q HN.out hok')
    have HB3 : Hid _ := hb3
    rw [hok']
    clear hyes hnot hok hok' hb3
    go_wp2_with fail
    go_ret
    show RPost2 s rb b ws w (riP s _ fin least r) _ _
    rw [riP, HT2.out, if_pos rfl]
    exact ⟨rfl, fun h => (by cases h), fun _ => ⟨HB3.out, he1.fr.thenr hf3 (fun i hi ho => he1.own i hi ho), hq3⟩⟩
  ·have hN' : isN (byte s q.i) = false := by simpa using hN
   have HT2 : Hid _ := HT.out.trans (riL_stop s (fun q => rsF s f q (own : Nat) (depth + 1)) n q hN')
   rw [hN']
   clear hN hN'
   by_cases hlt : (n : Int) < least
   ·go_wp2_with fail
    go_ret
    show RPost2 s rb b ws w (riP s _ fin least r) _ _
    rw [riP, HT2.out, if_neg (by simp), if_pos (Or.inl (by simp only; omega))]
    exact ⟨rfl, fun h => (by cases h), fun _ => ⟨hp1.blk, he1.fr, hp1.bad⟩⟩
   ·have hlt' : decide (n < least) = false := by simp; omega
    go_wp2_with fail
    by_cases hfin : byte s q.i = fin
    ·have HF : Hid (byte s q.i = fin) := hfin
     clear hfin
     refine (skip_yes _ rb s fin _ rfl q.i hp1.blk hs h0 HF.out).mono ?_
     rintro e w3 ⟨rfl, hb3, hf3⟩
     have hp3 := hp1.move hb3 hf3
     have he3 := he1.trans (EvR.of_fr hf3)
     clear hp1 he1 hb3 hf3
     go_wp2_with fail
     go_ret
     show RPost2 s rb b ws w (riP s _ fin least r) _ _
     rw [riP, HT2.out, if_neg (by simp), if_neg (by simp only; rw [HF.out]; simp; omega)]
     exact ⟨rfl, fun _ => ⟨wq, hp3, he3⟩, fun h => (by cases h)⟩
    ·have HF : Hid (byte s q.i ≠ fin) := hfin
     clear hfin
     refine (skip_no _ rb s fin _ rfl q.i hp1.blk HF.out).mono ?_
     rintro e w3 ⟨rfl, hb3, hf3⟩
     have hp3 := hp1.move hb3 hf3
     have he3 := he1.trans (EvR.of_fr hf3)
     clear hp1 he1 hb3 hf3
     go_wp2_with fail
     go_ret
     show RPost2 s rb b ws w (riP s _ fin least r) _ _
     rw [riP, HT2.out, if_neg (by simp), if_pos (Or.inr HF.out)]
     exact ⟨rfl, fun h => (by cases h), fun _ => ⟨hp3.blk, he3.fr, hp3.bad⟩⟩

theorem RdV.kind {w : World} {rb b : Nat} {s : ByteArray} {r : Rn} {ws : Ws} {g c own : Nat} {x : StP} (h : RdV w rb b s r ws) (hv : ws.v2 = .slice (some ⟨g, 0, none⟩) r.st.length c) (hx : r.st[own]? = some x) (k : Nat) (kI : Int) (hk : kI = k) :
  RdV (w.setCell ⟨g, own * 10 + 3, none⟩ (.int .i64 kI)) rb b s (setKP r own k) ws ∧ EvR rb b ws ws w (w.setCell ⟨g, own * 10 + 3, none⟩ (.int .i64 kI)) := by
 subst hk
 have hl := (List.getElem?_eq_some_iff.1 hx).1
 exact h.poke2 hv (own * 10 + 3) _ _ (by simp) (flat_set StP.cells 10 StP.len _ 3 (by decide) _ r.st own (fun y _ => rfl) hl) (by omega)

set_option maxRecDepth 100000 in
set_option maxHeartbeats 1000000 in
theorem readBrackets_any (s : ByteArray) (hs : s.size ≤ 1000000) (f : Nat) (hS : RsC s f) (w : World) (rb b : Nat) (r : Rn) (ws : Ws) (own depth : Nat) (x : StP)
    (hp : RdV w rb b s r ws) (hv : RdInv s r) (hx : r.st[own]? = some x) (hd : depth ≤ r.i) (hf : s.size - (r.i + 1) < f) :
    Calls Tryz.prog 64 #[.pointer (some ⟨rb, 0, none⟩), .pointer (some ⟨b, 0, none⟩), .int .i64 own, .int .i64 depth] w (RPost2 s rb b ws w (rs4 s (fun q => rsF s f q (own : Nat) (depth + 1)) own r)) := by
  have HS : Hid (RsC s f) := hS
  clear hS
  have hpl := (List.getElem?_eq_some_iff.1 hx).1
  have hv2 := hv.2.1
  have hv1 := hv.1
  go_enter Tryz.func64, Tryz.ntmps64
  go_wp2_with fail
  refine (next_any _ rb s _ hp.blk).mono ?_
  rintro e w1 ⟨rfl, n1, rfl⟩
  have hp1 := hp.drewN n1
  have he1 := (EvR.refl rb b ws w).drewN n1
  generalize w.drewN n1 = W1 at hp1 he1
  obtain ⟨gg, cc, hg2, hcc⟩ := row_form hp1.r2 (by omega)
  obtain ⟨k3, z3⟩ := hp1.st2 hg2 hx 3 _ (by omega) rfl
  obtain ⟨d2, -⟩ := hp1.pb.cells
  rw [hg2] at d2
  have hpl' : (own : Int) < r.st.length := by omega
  by_cases e40 : byte s r.i = 40
  · have hin := sg_in s 40 r.i (by decide) e40
    have hk := hp1.kind hg2 hx 1 1 rfl
    have HK : Hid _ := hk
    have H4 : Hid (rs4 s (fun q => rsF s f q (own : Nat) (depth + 1)) own r = riP s (fun q => rsF s f q (own : Nat) (depth + 1)) 41 1 (setKP r own 1)) := by show _ = _; rw [rs4, if_pos e40]
    rw [e40]
    clear hk hx e40
    go_wp2_with fail
    refine (readInner_any s hs f HS.out _ rb b (setKP r own 1) ws own depth 1 1 rfl 41 41 rfl (by decide) HK.out.1 ⟨hv.1, by simp [setKP]; exact hv.2.1, hv.2.2⟩ hin hd (by omega) hf).mono ?_
    rintro e w2 ⟨rfl, hyes, hnot⟩
    go_wp2_with fail
    go_ret
    show RPost2 s rb b ws w (rs4 s _ own r) _ _
    rw [H4.out]
    refine ⟨rfl, fun h => ?_, fun h => ?_⟩
    · obtain ⟨ws2, q1, q2⟩ := hyes h
      exact ⟨ws2, q1, (he1.trans HK.out.2).trans q2⟩
    · obtain ⟨q1, q2, q3⟩ := hnot h
      exact ⟨q1, (he1.trans HK.out.2).fr.thenr q2 (fun i hi ho => (he1.trans HK.out.2).own i hi ho), q3⟩
  · have b40 : (((byte s r.i).toNat : Int) == 40) = false := by
      rw [beq_eq_false_iff_ne]; intro h; exact e40 (UInt8.toNat_inj.1 (by show _ = 40; omega))
    by_cases e91 : byte s r.i = 91
    · have hin := sg_in s 91 r.i (by decide) e91
      have hk := hp1.kind hg2 hx 2 2 rfl
      have HK : Hid _ := hk
      have H4 : Hid (rs4 s (fun q => rsF s f q (own : Nat) (depth + 1)) own r = riP s (fun q => rsF s f q (own : Nat) (depth + 1)) 93 2 (setKP r own 2)) := by show _ = _; rw [rs4, if_neg e40, if_pos e91]
      rw [e91]
      clear hk hx e91 e40 b40
      go_wp2_with fail
      refine (readInner_any s hs f HS.out _ rb b (setKP r own 2) ws own depth 2 2 rfl 93 93 rfl (by decide) HK.out.1 ⟨hv.1, by simp [setKP]; exact hv.2.1, hv.2.2⟩ hin hd (by omega) hf).mono ?_
      rintro e w2 ⟨rfl, hyes, hnot⟩
      go_wp2_with fail
      go_ret
      show RPost2 s rb b ws w (rs4 s _ own r) _ _
      rw [H4.out]
      refine ⟨rfl, fun h => ?_, fun h => ?_⟩
      · obtain ⟨ws2, q1, q2⟩ := hyes h
        exact ⟨ws2, q1, (he1.trans HK.out.2).trans q2⟩
      · obtain ⟨q1, q2, q3⟩ := hnot h
        exact ⟨q1, (he1.trans HK.out.2).fr.thenr q2 (fun i hi ho => (he1.trans HK.out.2).own i hi ho), q3⟩
    · have b91 : (((byte s r.i).toNat : Int) == 91) = false := by
        rw [beq_eq_false_iff_ne]; intro h; exact e91 (UInt8.toNat_inj.1 (by show _ = 91; omega))
      have H4 : Hid (rs4 s (fun q => rsF s f q (own : Nat) (depth + 1)) own r = (true, r)) := by show _ = _; rw [rs4, if_neg e40, if_neg e91]
      clear e40 e91
      go_wp2_with fail
      go_ret
      show RPost2 s rb b ws w (rs4 s _ own r) _ _
      rw [H4.out]
      exact ⟨rfl, fun _ => ⟨ws, hp1, he1⟩, fun h => (by cases h)⟩
end Go.Proofs.YtmolmbeeoecnfaaGreatDoor
