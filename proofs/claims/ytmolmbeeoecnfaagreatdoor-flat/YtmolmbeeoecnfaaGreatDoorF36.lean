/- Own work: EvU, TE1, TP2, CoU. -/
import Derived.Test.YtmolmbeeoecnfaaGreatDoorF23
import Derived.Test.YtmolmbeeoecnfaaGreatDoorF33
import Derived.Test.YtmolmbeeoecnfaaGreatDoorF35
/- Own work: the events of a right chart's transitions are small letters. -/
namespace Go.Proofs.YtmolmbeeoecnfaaGreatDoor
open Go.RowKit Go.BigFrame
set_option linter.unusedVariables false
set_option linter.unusedSimpArgs false

def EvS (r : Rn) : Prop := ∀ t ∈ r.tr, isE t.event = true
theorem rtP_ev (s : ByteArray) (own i : Nat) (h : (rtP s own i).1 = true) : isE (rtP s own i).2.2.event = true := by
 unfold rtP at h ⊢
 simp only at h ⊢
 split
 ·rename_i h1; rw [if_pos h1] at h; cases h
 ·rename_i h1
  rw [if_neg h1] at h
  split
  ·rename_i h2; rw [if_pos h2] at h; cases h
  ·rename_i h2
   rw [if_neg h2] at h
   split
   ·rename_i h3; rw [if_pos h3] at h; cases h
   ·rename_i h3
    rw [if_neg h3] at h
    split
    ·rename_i h4; rw [if_pos h4] at h; cases h
    ·simpa using h1
theorem EvS.rtF {s : ByteArray} {own : Nat} : ∀ (f : Nat) (r : Rn), EvS r → (rtF s own f r).1 = true → EvS (rtF s own f r).2
 | 0, r, h, _ => h
 | f + 1, r, h, hk => by
  simp only [Proofs.YtmolmbeeoecnfaaGreatDoor.rtF] at hk ⊢
  split at hk
  ·rename_i h47
   rw [if_pos h47]
   split at hk
   ·rename_i hok
    rw [if_pos hok]
    refine EvS.rtF f _ ?_ hk
    intro t ht
    rcases List.mem_append.1 ht with ht | ht
    ·exact h t ht
    ·simp only [List.mem_cons, List.not_mem_nil, or_false] at ht
     rw [ht]; exact rtP_ev s own r.i hok
   ·cases hk
  ·rename_i h47
   rw [if_neg h47]; exact h
theorem EvS.riF {s : ByteArray} {g : Rn → Bool × Rn} (hg : ∀ q, EvS q → (g q).1 = true → EvS (g q).2) : ∀ (f n : Nat) (r : Rn), EvS r → (riF s g f n r).1 = true → EvS (riF s g f n r).2.2
 | 0, n, r, h, _ => h
 | f + 1, n, r, h, hk => by
  simp only [Proofs.YtmolmbeeoecnfaaGreatDoor.riF] at hk ⊢
  split at hk
  ·rename_i h1
   rw [if_pos h1]
   split at hk
   ·rename_i h2
    rw [if_pos h2]
    exact EvS.riF hg f _ _ (hg r h h2) hk
   ·cases hk
  ·rename_i h1
   rw [if_neg h1]; exact h
theorem EvS.riP {s : ByteArray} {g : Rn → Bool × Rn} (hg : ∀ q, EvS q → (g q).1 = true → EvS (g q).2) (fin : UInt8) (least : Nat) (r : Rn) (h : EvS r) (hk : (riP s g fin least r).1 = true) : EvS (riP s g fin least r).2 := by
 have h1 : (riL s g 0 { r with i := r.i + 1 }).1 = true → EvS (riL s g 0 { r with i := r.i + 1 }).2.2 := EvS.riF hg _ 0 { r with i := r.i + 1 } h
 unfold Proofs.YtmolmbeeoecnfaaGreatDoor.riP at hk ⊢
 split
 ·rename_i h2; rw [if_pos h2] at hk; cases hk
 ·rename_i h2
  rw [if_neg h2] at hk
  split
  ·rename_i h3; rw [if_pos h3] at hk; cases hk
  ·exact h1 (by simpa using h2)
theorem EvS.rsF {s : ByteArray} : ∀ (f : Nat) (r : Rn) (outer : Int) (depth : Nat), EvS r → (rsF s f r outer depth).1 = true → EvS (rsF s f r outer depth).2
 | 0, r, _, _, h, _ => h
 | f + 1, r, outer, depth, h, hk => by
  simp only [Proofs.YtmolmbeeoecnfaaGreatDoor.rsF] at hk ⊢
  split
  ·rename_i h1; rw [if_pos h1] at hk; cases hk
  ·rename_i h1
   rw [if_neg h1] at hk
   split
   ·rename_i h2; rw [if_pos h2] at hk; cases hk
   ·rename_i h2
    rw [if_neg h2] at hk
    split
    ·rename_i h3; rw [if_pos h3] at hk; cases hk
    ·rename_i h3
     rw [if_neg h3] at hk
     have h3' : EvS (rs3 s r.st.length (rs1 s r outer depth)) := h
     have h4 : (rs4 s (fun q => Proofs.YtmolmbeeoecnfaaGreatDoor.rsF s f q (r.st.length : Nat) (depth + 1)) r.st.length (rs3 s r.st.length (rs1 s r outer depth))).1 = true → EvS (rs4 s (fun q => Proofs.YtmolmbeeoecnfaaGreatDoor.rsF s f q (r.st.length : Nat) (depth + 1)) r.st.length (rs3 s r.st.length (rs1 s r outer depth))).2 := by
      unfold rs4
      split
      ·exact fun hh => EvS.riP (fun q hq hq2 => EvS.rsF f q _ _ hq hq2) _ _ _ h3' hh
      ·split
       ·exact fun hh => EvS.riP (fun q hq hq2 => EvS.rsF f q _ _ hq hq2) _ _ _ h3' hh
       ·exact fun _ => h3'
     generalize rs4 s (fun q => Proofs.YtmolmbeeoecnfaaGreatDoor.rsF s f q (r.st.length : Nat) (depth + 1)) r.st.length (rs3 s r.st.length (rs1 s r outer depth)) = q4 at *
     unfold rs5 at hk ⊢
     split
     ·rename_i h5; rw [if_pos h5, h5] at hk; cases hk
     ·rename_i h5
      rw [if_neg h5] at hk
      exact EvS.rtF _ _ (show EvS (setEP q4.2 r.st.length q4.2.st.length) from h4 (by simpa using h5)) hk
theorem un_ev {s : ByteArray} (h : (unE s).1 = 0) : ∀ t ∈ unTr s, isE t.event = true := by
 have h1 := (unE_ok h).2.1
 have h2 : (rcR s).1 = true := by rw [rcK, Bool.and_eq_true] at h1; exact h1.1
 have h3 : EvS (rcR s).2 := EvS.rsF _ _ _ _ (fun t ht => by simp [R0] at ht) h2
 intro t ht
 obtain ⟨t0, ht0, rfl⟩ := List.mem_map.1 ht
 exact h3 t0 ht0
theorem nmK_mem (st : List StP) (l : List Bool) (c : UInt8) : ∀ k, c ∈ nmK st l k ↔ ∃ j, j < k ∧ mem l j = true ∧ nameAt st j = c
 | 0 => by simp [nmK]
 | k + 1 => by
  have ih := nmK_mem st l c k
  rw [nmK]
  by_cases h : mem l k = true
  ·rw [if_pos h, List.mem_append, ih]
   constructor
   ·rintro (⟨j, h1, h2, h3⟩ | h1)
    ·exact ⟨j, by omega, h2, h3⟩
    ·simp only [List.mem_cons, List.not_mem_nil, or_false] at h1
     exact ⟨k, by omega, h, h1.symm⟩
   ·rintro ⟨j, h1, h2, h3⟩
    by_cases e : j = k
    ·subst e; exact Or.inr (by simp [h3])
    ·exact Or.inl ⟨j, by omega, h2, h3⟩
  ·rw [if_neg h, ih]
   constructor
   ·rintro ⟨j, h1, h2, h3⟩; exact ⟨j, by omega, h2, h3⟩
   ·rintro ⟨j, h1, h2, h3⟩
    by_cases e : j = k
    ·subst e; exact absurd h2 h
    ·exact ⟨j, by omega, h2, h3⟩
theorem un_names {s : ByteArray} (h : (unE s).1 = 0) : (∀ k, k < (unSt s).length → isN (nameAt (unSt s) k) = true) ∧ ∀ i k, i < k → k < (unSt s).length → nameAt (unSt s) i ≠ nameAt (unSt s) k := by
 obtain ⟨h160, hK, hw, hv, hm⟩ := unE_ok h
 have hok : (rcR s).1 = true := by
  simp only [rcK, Bool.and_eq_true] at hK
  exact hK.1
 have hI0 : RdInv s R0 := ⟨Nat.zero_le _, Nat.le_refl _, Nat.le_refl _⟩
 have hsh := rsF_shp s (s.size + 1) R0 (-1) 1 hI0 (by show s.size - 0 < _; omega) (Int.le_refl _) (by show (-1 : Int) < ((0 : Nat) : Int); omega) hok
 have hShp : Shp s R0 (rcR s).2 := hsh.1
 have hS := un_sm h
 have hl := hS.1
 have hget : ∀ k, k < (unSt s).length → ∃ y, (rcR s).2.st[k]? = some y ∧ nameAt (unSt s) k = y.name := by
  intro k hk
  obtain ⟨x, hx⟩ : ∃ x, (unSt s)[k]? = some x := ⟨_, List.getElem?_eq_getElem hk⟩
  obtain ⟨y, hy, hs⟩ := hS.2 k x hx
  exact ⟨y, hy, by rw [nameAt_at hx]; exact hs.n⟩
 refine ⟨fun k hk => ?_, fun i k hik hk he => ?_⟩
 ·obtain ⟨y, hy, hn⟩ := hget k hk
  rw [hn]; exact (hShp.each k y (Nat.zero_le _) hy).nm
 ·obtain ⟨y, hy, hn⟩ := hget k hk
  obtain ⟨z, hz, hn2⟩ := hget i (by omega)
  have h1 := ftw_all hw hy
  have h2 := idxP_le hz y.name (by rw [← hn2, ← hn]; exact he)
  omega
end Go.Proofs.YtmolmbeeoecnfaaGreatDoor

/- Own work: the program's answer of a table is the document's: plainly. -/
namespace Go.Proofs.YtmolmbeeoecnfaaGreatDoor
set_option linter.unusedVariables false
set_option linter.unusedSimpArgs false

def RwOk (x : Rw) : Prop := (0 ≤ x.same ∧ byte x.text 0 = 61) ∨ (x.same = -1 ∧ byte x.text 0 ≠ 61)

theorem rowP_ok (s : ByteArray) (wd i : Nat) (hi : i ≤ s.size) (h : (rowP s wd i).1 = true) : RwOk (rowP s wd i).2.2 := by
 revert h
 unfold rowP
 simp only
 split
 ·rename_i h61
  split
  ·intro h; cases h
  ·rename_i hd
   have hb := nend_bd s (i + 1) (by simpa using hd)
   split
   ·intro h; cases h
   ·intro _
    left
    refine ⟨by simp only; omega, ?_⟩
    simp only
    rw [byte_cut s i _ 0 hb.2 (by omega)]
    exact h61
 ·rename_i h61
  have hb := clF_bd s wd i [] hi
  split
  ·intro h; cases h
  ·split
   ·intro h; cases h
   ·intro _
    right
    refine ⟨rfl, ?_⟩
    simp only
    by_cases e : i < (clF s wd i []).2.1
    ·rw [byte_cut s i _ 0 hb.2 (by omega)]; exact h61
    ·rw [show (clF s wd i []).2.1 = i by omega, cut_self, byte_out _ 0 (by simp)]; decide
theorem rwF_ok (s : ByteArray) (wd : Nat) : ∀ (f i : Nat) (a : List Rw), i ≤ s.size → (∀ r ∈ a, RwOk r) → ∀ r ∈ (rwF s wd f i a).2.2, RwOk r
 | 0, i, a, hi, h => h
 | f + 1, i, a, hi, h => by
  have hb := rowP_bd s wd i hi
  simp only [rwF]
  split
  ·exact h
  ·have hw := rowP_ok s wd i hi (by simpa using ‹¬ (rowP s wd i).1 = false›)
   have h' : ∀ r ∈ a ++ [(rowP s wd i).2.2], RwOk r := by
    intro r hr
    rcases List.mem_append.1 hr with hr | hr
    ·exact h r hr
    ·simp only [List.mem_cons, List.not_mem_nil, or_false] at hr; subst hr; exact hw
   split
   ·exact rwF_ok s wd f _ _ (by omega) h'
   ·exact h'
theorem form_ok (s : ByteArray) : ∀ r ∈ (formP s).2.2.rows, RwOk r := by
 unfold formP
 simp only
 split
 ·intro r hr; simp at hr
 ·rename_i h1
  have hin := sg_in s 59 (tev s) (by decide) (by simpa using h1)
  split
  ·intro r hr; simp at hr
  ·rename_i h2
   have hin2 := sg_in s 59 (tbg s) (by decide) (by simpa using h2)
   exact rwF_ok s (tev s) (s.size + 1 - (tbg s + 1)) (tbg s + 1) [] hin2 (fun r hr => by simp at hr)

theorem smQ_neg (x : Int) : smQ x = -1 ↔ x < 0 := by
 unfold smQ; split
 ·simp [*]
 ·constructor
  ·intro h; omega
  ·intro h; omega
theorem ld_eq (n : Nat) (hn : n ≤ 99) (cs : List Cl) : ldQ n cs = ldD n cs := by
 unfold ldQ ldD
 rw [firstB_congr (ldB n cs) (ldDB n cs)]
 intro j hj
 unfold ldB ldDB
 cases cs[j]? with
 | none => rfl
 | some c => simp only; rw [Bool.eq_iff_iff]; simp only [decide_eq_true_eq]; omega
theorem st_eqT (R : List Rw) (hR : ∀ r ∈ R, RwOk r) (r : Rw) (hr : r.same = -1) (hr2 : byte r.text 0 ≠ 61) (i : Nat) : stQ R r.text i = stD R (dText r) i := by
 unfold stQ stD
 rw [firstB_congr (stB R r.text) (stDB R (dText r))]
 intro j hj
 unfold stB stDB
 cases hx : R[j]? with
 | none => rfl
 | some x =>
  simp only
  have hdr : dText r = r.text := by rw [dText, if_pos (by omega)]
  rcases hR x (List.mem_of_getElem? hx) with ⟨h1, h2⟩ | ⟨h1, h2⟩
  ·rw [decide_eq_false (fun e => hr2 (by rw [← e]; exact h2)), decide_eq_false (by omega : ¬ x.same < 0)]; rfl
  ·rw [decide_eq_true (by omega : x.same < 0), hdr, show dText x = x.text by rw [dText, if_pos (by omega)]]; rfl
theorem rg_sd (R : List Rw) (hR : ∀ r ∈ R, RwOk r) (hl : R.length ≤ 99) (i : Nat) (r : Rw) (hi : R[i]? = some r) : rgQ R i r = sdQ R i r := by
 have hil := (List.getElem?_eq_some_iff.1 hi).1
 unfold rgQ sdQ
 rcases hR r (List.mem_of_getElem? hi) with ⟨h1, h2⟩ | ⟨h1, h2⟩
 ·rw [if_pos (by rw [Ne, smQ_neg]; omega), if_pos h1]
  have e : smQ r.same = min r.same 99 := by rw [smQ, if_neg (by omega)]
  by_cases hlt : r.same < i
  ·rw [e, show min r.same 99 = r.same by omega, decide_eq_true hlt]
   simp only [Bool.true_and]
   cases R[r.same.toNat]? with
   | none => rfl
   | some x => simp only; rw [Bool.eq_iff_iff]; simp only [decide_eq_true_eq]; exact smQ_neg _
  ·rw [e, decide_eq_false hlt, decide_eq_false (by omega)]; rfl
 ·rw [if_neg (by rw [Ne, smQ_neg]; omega), if_neg (by omega), ld_eq _ hl, st_eqT R hR r h1 h2]
theorem rgB_sdB (R : List Rw) (hR : ∀ r ∈ R, RwOk r) (hl : R.length ≤ 99) (i : Nat) : rgB R i = sdB R i := by
 unfold rgB sdB
 cases hx : R[i]? with
 | none => rfl
 | some r => simp only; rw [rg_sd R hR hl i r hx]

theorem load_eq (s : ByteArray) : ldE s = rdT s := by
 unfold ldE rdT
 split
 ·rfl
 ·split
  ·rfl
  ·split
   ·rfl
   ·rw [firstB_congr (rgB (formP s).2.2.rows) (sdB (formP s).2.2.rows) _ (fun j _ => rgB_sdB _ (form_ok s) (by omega) j)] <;> (cases firstB (sdB (formP s).2.2.rows) (formP s).2.2.rows.length <;> rfl)
end Go.Proofs.YtmolmbeeoecnfaaGreatDoor

/- Own work: the plain mathematics of playing a table. -/
namespace Go.Proofs.YtmolmbeeoecnfaaGreatDoor
set_option linter.unusedVariables false
set_option linter.unusedSimpArgs false

def colB (ev : ByteArray) (c : UInt8) (k : Nat) : Bool := decide (byte ev k = c)
def colP (ev : ByteArray) (c : UInt8) : Option Nat := firstB (colB ev c) ev.size
def cellsOf (R : List Rw) (n : Nat) : List Cl := match R[n]? with
 | none => []
 | some r => if 0 ≤ r.same then (match R[r.same.toNat]? with | some x => x.cells | none => []) else r.cells
def cellOf (R : List Rw) (n k : Nat) : Cl := ((cellsOf R n)[k]?).getD ⟨0, ⟨#[]⟩⟩
def runS (R : List Rw) (ev bg es : ByteArray) : Nat → ByteArray × Nat
 | 0 => (bg, 0)
 | j + 1 => match colP ev (byte es j) with
  | none => ((runS R ev bg es j).1 ++ ⟨#[46]⟩, (runS R ev bg es j).2)
  | some k => ((runS R ev bg es j).1 ++ ⟨#[46]⟩ ++ (cellOf R (runS R ev bg es j).2 k).acts, (cellOf R (runS R ev bg es j).2 k).dst)

theorem colP_lt {ev : ByteArray} {c : UInt8} {k : Nat} (h : colP ev c = some k) : k < ev.size ∧ byte ev k = c := by
 rcases firstB_spec (colB ev c) ev.size with ⟨h1, -⟩ | ⟨m, h1, h2, h3, -⟩
 ·rw [colP, h1] at h; cases h
 ·rw [colP, h1] at h; cases h; exact ⟨h2, by simpa [colB] using h3⟩

def ActOk (m : Nat) (r : Rw) : Prop := ∀ c ∈ r.cells, c.acts.size ≤ m
theorem cellP_act (s : ByteArray) (i : Nat) (hi : i ≤ s.size) : (cellP s i).2.2.acts.size ≤ s.size := by
 unfold cellP
 split
 ·exact Nat.zero_le _
 ·rename_i h1
  have hb := nend_bd s i (by simpa using h1)
  split
  ·exact Nat.zero_le _
  ·rename_i h2
   have h3 := sg_in s 58 (nend s i) (by decide) (by simpa using h2)
   have h4 := dend_le s (nend s i + 1) h3
   show (cut s (nend s i + 1) (dend s (nend s i + 1))).size ≤ s.size
   rw [cut_size s (nend s i + 1) (dend s (nend s i + 1)) (dend_ge s _) h4]
   omega
theorem clF_act (s : ByteArray) : ∀ (n i : Nat) (a : List Cl), i ≤ s.size → (∀ c ∈ a, c.acts.size ≤ s.size) → ∀ c ∈ (clF s n i a).2.2, c.acts.size ≤ s.size
 | 0, i, a, _, h => h
 | n + 1, i, a, hi, h => by
  simp only [clF]
  split
  ·exact h
  ·rename_i h1
   have hj : i ≤ clJ a i ∧ clJ a i ≤ s.size := by
    unfold clJ
    by_cases e : a = []
    ·rw [if_pos e]; omega
    ·rw [if_neg e]
     have h2 : byte s i = 44 := Classical.byContradiction fun h => h1 ⟨e, h⟩
     have := sg_in s 44 i (by decide) h2
     omega
   have hc := cellP_bd s _ hj.2
   split
   ·exact h
   ·refine clF_act s n _ _ hc.2.1 ?_
    intro c hm
    rcases List.mem_append.1 hm with hm | hm
    ·exact h c hm
    ·simp only [List.mem_cons, List.not_mem_nil, or_false] at hm; subst hm; exact cellP_act s _ hj.2
theorem rowP_act (s : ByteArray) (wd i : Nat) (hi : i ≤ s.size) : ActOk s.size (rowP s wd i).2.2 := by
 unfold rowP
 simp only
 split
 ·split
  ·intro c hc; simp at hc
  ·split
   ·intro c hc; simp at hc
   ·intro c hc; simp at hc
 ·split
  ·intro c hc; simp at hc
  ·split
   ·intro c hc; simp at hc
   ·exact clF_act s wd i [] hi (fun c hc => by simp at hc)
theorem rwF_act (s : ByteArray) (wd : Nat) : ∀ (f i : Nat) (a : List Rw), i ≤ s.size → (∀ r ∈ a, ActOk s.size r) → ∀ r ∈ (rwF s wd f i a).2.2, ActOk s.size r
  | 0, i, a, hi, h => h
  | f + 1, i, a, hi, h => by
    have hb := rowP_bd s wd i hi
    simp only [rwF]
    split
    · exact h
    · have h' : ∀ r ∈ a ++ [(rowP s wd i).2.2], ActOk s.size r := by
        intro r hr
        rcases List.mem_append.1 hr with hr | hr
        · exact h r hr
        · simp only [List.mem_cons, List.not_mem_nil, or_false] at hr; subst hr; exact rowP_act s wd i hi
      split
      · exact rwF_act s wd f _ _ (by omega) h'
      · exact h'
theorem form_act (s : ByteArray) : ∀ r ∈ (formP s).2.2.rows, ActOk s.size r := by
 unfold formP
 simp only
 split
 ·intro r hr; simp at hr
 ·rename_i h1
  have hin := sg_in s 59 (tev s) (by decide) (by simpa using h1)
  split
  ·intro r hr; simp at hr
  ·rename_i h2
   have hin2 := sg_in s 59 (tbg s) (by decide) (by simpa using h2)
   exact rwF_act s (tev s) (s.size + 1 - (tbg s + 1)) (tbg s + 1) [] hin2 (fun r hr => by simp at hr)
theorem form_bg (s : ByteArray) : (formP s).2.2.begin_.size ≤ s.size := by
 unfold formP
 simp only
 split
 ·exact Nat.zero_le _
 ·rename_i h1
  have hin := sg_in s 59 (tev s) (by decide) (by simpa using h1)
  split
  ·exact Nat.zero_le _
  ·have h2 := dend_le s (tev s + 1) hin
   have h3 : tbg s ≤ s.size := h2
   have h4 : tev s + 1 ≤ tbg s := dend_ge s _
   show (cut s (tev s + 1) (tbg s)).size ≤ s.size
   rw [cut_size s (tev s + 1) (tbg s) h4 h3]
   omega
theorem rwF_ne (s : ByteArray) (wd : Nat) : ∀ (f i : Nat) (a : List Rw), (rwF s wd f i a).1 = true → 0 < (rwF s wd f i a).2.2.length
 | 0, i, a, h => by cases h
 | f + 1, i, a, h => by
  simp only [rwF] at h ⊢
  split at h
  ·cases h
  ·rename_i h1
   rw [if_neg h1]
   split at h
   ·rename_i h2
    rw [if_pos h2]
    exact rwF_ne s wd f _ _ h
   ·rename_i h2
    rw [if_neg h2]
    simp
theorem form_ne (s : ByteArray) (h : (formP s).1 = true) : 0 < (formP s).2.2.rows.length := by
 revert h
 unfold formP
 simp only
 split
 ·intro h; cases h
 ·split
  ·intro h; cases h
  ·exact rwF_ne s _ _ _ _

structure TbOk (R : List Rw) (wd m : Nat) : Prop where
 ne : 0 < R.length
 le : R.length ≤ 99
 row : ∀ (i : Nat) (r : Rw), R[i]? = some r → (0 ≤ r.same ∧ r.same < i ∧ ∃ x, R[r.same.toNat]? = some x ∧ x.same = -1) ∨ (r.same = -1 ∧ r.cells.length = wd ∧ ∀ c ∈ r.cells, c.dst < R.length ∧ c.acts.size ≤ m)

theorem ld_all {n : Nat} {cs : List Cl} (h : ldD n cs = true) : ∀ c ∈ cs, c.dst < n := by
 intro c hc
 obtain ⟨k, hk⟩ := List.mem_iff_getElem?.1 hc
 have hkl := (List.getElem?_eq_some_iff.1 hk).1
 rcases firstB_spec (ldDB n cs) cs.length with ⟨-, h2⟩ | ⟨m, h1, -⟩
 ·have := h2 k hkl
  simp [ldDB, hk] at this
  omega
 ·rw [ldD, h1] at h; cases h

theorem tbOk_of (s : ByteArray) (h1 : (formP s).1 = true) (h2 : (formP s).2.2.rows.length ≤ 99) (h3 : ∀ i, sdB (formP s).2.2.rows i = false) : TbOk (formP s).2.2.rows (formP s).2.2.events.size s.size where
 ne := form_ne s h1
 le := h2
 row := by
  intro i r hr
  have h4 := h3 i
  have hwd := form_wd s r (List.mem_of_getElem? hr)
  have hok := form_ok s
  have hact := form_act s r (List.mem_of_getElem? hr)
  simp only [sdB, hr, Bool.not_eq_false'] at h4
  unfold sdQ at h4
  by_cases hs : 0 ≤ r.same
  ·left
   rw [if_pos hs, Bool.and_eq_true, decide_eq_true_eq] at h4
   refine ⟨hs, h4.1, ?_⟩
   cases hx : (formP s).2.2.rows[r.same.toNat]? with
   | none => rw [hx] at h4; exact absurd h4.2 (by simp)
   | some x =>
    rw [hx] at h4
    refine ⟨x, rfl, ?_⟩
    have h5 : x.same < 0 := by simpa using h4.2
    rcases hok x (List.mem_of_getElem? hx) with h6 | h6
    ·omega
    ·exact h6.1
  ·right
   rw [if_neg hs, Bool.and_eq_true] at h4
   rcases hwd with h | h
   ·omega
   ·exact ⟨h.1, h.2, fun c hc => ⟨ld_all h4.1 c hc, hact c hc⟩⟩

section
variable {R : List Rw} {wd m : Nat}
theorem TbOk.cells (h : TbOk R wd m) {n : Nat} (hn : n < R.length) : (cellsOf R n).length = wd ∧ ∀ c ∈ cellsOf R n, c.dst < R.length ∧ c.acts.size ≤ m := by
 unfold cellsOf
 rw [List.getElem?_eq_getElem hn]
 simp only
 rcases h.row n _ (List.getElem?_eq_getElem hn) with ⟨h1, h2, x, h3, h4⟩ | ⟨h1, h2, h3⟩
 ·rw [if_pos h1, h3]
  simp only
  rcases h.row _ _ h3 with ⟨h5, -⟩ | ⟨-, h6, h7⟩
  ·omega
  ·exact ⟨h6, h7⟩
 ·rw [if_neg (by omega)]
  exact ⟨h2, h3⟩
theorem TbOk.cell (h : TbOk R wd m) {n k : Nat} (hn : n < R.length) (hk : k < wd) : (cellsOf R n)[k]? = some (cellOf R n k) ∧ (cellOf R n k).dst < R.length ∧ (cellOf R n k).acts.size ≤ m := by
 obtain ⟨h1, h2⟩ := h.cells hn
 have h3 : (cellsOf R n)[k]? = some (cellsOf R n)[k] := List.getElem?_eq_getElem (by omega)
 have h4 : cellOf R n k = (cellsOf R n)[k] := by rw [cellOf, h3]; rfl
 rw [h4]
 exact ⟨h3, h2 _ (List.getElem_mem _)⟩
theorem TbOk.run {ev : ByteArray} (h : TbOk R ev.size m) (bg es : ByteArray) : ∀ j, (runS R ev bg es j).2 < R.length ∧ (runS R ev bg es j).1.size ≤ bg.size + j * (m + 1)
 | 0 => ⟨h.ne, by simp [runS]⟩
 | j + 1 => by
  have ih := h.run bg es j
  have hj : (j + 1) * (m + 1) = j * (m + 1) + (m + 1) := by rw [Nat.add_mul, Nat.one_mul]
  simp only [runS]
  cases hc : colP ev (byte es j) with
  | none =>
   simp only [ByteArray.size_append]
   have e : (ByteArray.mk #[46]).size = 1 := rfl
   exact ⟨ih.1, by omega⟩
  | some k =>
   have hk := colP_lt hc
   have h5 := h.cell ih.1 hk.1
   simp only [ByteArray.size_append]
   have e : (ByteArray.mk #[46]).size = 1 := rfl
   exact ⟨h5.2.1, by omega⟩
end
def runX (s es : ByteArray) : ByteArray × Nat × Int × Int :=
 if 400 < es.size then (⟨#[]⟩, 0, 1, 0)
 else if (ldE s).1 ≠ 0 then (⟨#[]⟩, 0, (ldE s).1, (ldE s).2)
 else ((runS (formP s).2.2.rows (formP s).2.2.events (formP s).2.2.begin_ es es.size).1, (runS (formP s).2.2.rows (formP s).2.2.events (formP s).2.2.begin_ es es.size).2, 0, 0)

def Ob (o : List UInt8) (p q : Py) : Prop := p.act = q.act ∧ p.mm = q.mm ∧ p.out = o ++ q.out
theorem Ob.app {o : List UInt8} {p q : Py} (h : Ob o p q) (a : List UInt8) {x y : List Bool} (hxy : x = y) : Ob o { p with act := x, out := p.out ++ a } { q with act := y, out := q.out ++ a } :=
 ⟨hxy, h.2.1, by show p.out ++ a = o ++ (q.out ++ a); rw [h.2.2]; simp⟩
theorem itF_ob (o : List UInt8) (g : Nat → Py → Py) (hg : ∀ i p q, Ob o p q → Ob o (g i p) (g i q)) : ∀ (n i : Nat) (p q : Py), Ob o p q → Ob o (itF g n i p) (itF g n i q)
 | 0, i, p, q, h => h
 | n + 1, i, p, q, h => itF_ob o g hg n (i + 1) _ _ (hg i p q h)
theorem enF_ob (o : List UInt8) (st : List StP) : ∀ (f s : Nat) (a : Am) (p q : Py), Ob o p q → Ob o (enF st f s a p) (enF st f s a q)
 | 0, s, a, p, q, h => h
 | f + 1, s, a, p, q, h => by
  cases hx : st[s]? with
  | none => simp only [enF, hx]; exact h
  | some x =>
   have h1 : Ob o { p with act := p.act.set s true, out := p.out ++ bls x.enter } { q with act := q.act.set s true, out := q.out ++ bls x.enter } := h.app _ (by rw [h.1])
   by_cases h2 : x.kind = 2
   ·rw [enF_and hx h2, enF_and hx h2]
    refine itF_ob o _ ?_ _ _ _ _ h1
    intro i p' q' hpq
    split
    ·exact enF_ob o st f i a p' q' hpq
    ·exact hpq
   ·by_cases h3 : x.kind = 1
    ·rw [enF_or hx h3, enF_or hx h3, h.2.1]
     exact enF_ob o st f _ _ _ _ ⟨h1.1, rfl, h1.2.2⟩
    ·rw [enF_leaf hx h2 h3, enF_leaf hx h2 h3]
     exact h1
theorem lvF_ob (o : List UInt8) (st : List StP) (left : List Bool) : ∀ (k : Nat) (p q : Py), Ob o p q → Ob o (lvF st left k p) (lvF st left k q)
 | 0, p, q, h => h
 | k + 1, p, q, h => by
  rw [lvF, lvF]
  split
  ·exact lvF_ob o st left k _ _ (h.app _ (by rw [h.1]))
  ·exact lvF_ob o st left k p q h
theorem rmF_ob (o : List UInt8) (st : List StP) (left : List Bool) : ∀ (k : Nat) (p q : Py), Ob o p q → Ob o (rmF st left k p) (rmF st left k q) := by
 intro k p q h
 have h1 := rmF_eqv st left k p q ⟨h.1, h.2.1⟩
 exact ⟨h1.1, h1.2, by rw [rmF_out, rmF_out]; exact h.2.2⟩
theorem tkF_ob (o : List UInt8) (st : List StP) (t : TrQ) (p q : Py) (h : Ob o p q) : Ob o (tkF st t p) (tkF st t q) := by
 unfold tkF
 rw [h.1]
 have h1 := lvF_ob o st (lefB st q.act t) st.length _ _ (rmF_ob o st (lefB st q.act t) st.length _ _ h)
 exact enF_ob o st 26 _ _ _ _ (h1.app _ h1.1)
theorem fold_ob (o : List UInt8) (st : List StP) (th : List TrH) : ∀ (ns : List Nat) (p q : Py), Ob o p q → Ob o (ns.foldl (tk1 st th) p) (ns.foldl (tk1 st th) q)
 | [], p, q, h => h
 | n :: ns, p, q, h => by
  rw [List.foldl_cons, List.foldl_cons]
  refine fold_ob o st th ns _ _ ?_
  unfold tk1; split
  ·exact tkF_ob o st _ p q h
  ·exact h
theorem evStep_sp (st : List StP) (th : List TrH) (p : Py) (ev : UInt8) : sxP (evStep st th p ev) = sxP (spS st th ev (sxP p)) ∧ (evStep st th p ev).out = (p.out ++ [46]) ++ (spS st th ev (sxP p)).out := by
 have h : Ob (p.out ++ [46]) { p with out := p.out ++ [46] } ⟨p.act, p.mm, []⟩ := ⟨rfl, rfl, by simp⟩
 have h1 := fold_ob _ st th (tkn st th p.act ev) _ _ h
 exact ⟨Prod.ext h1.1 h1.2.1, h1.2.2⟩

theorem evP_mem (th : List TrH) (c : UInt8) (h1 : 97 ≤ c.toNat) (hc : hasE th c = true) : ∀ k, c.toNat < 97 + k → c ∈ evP th k
  | 0, h => by omega
  | k + 1, h => by
    rw [evP]
    by_cases hk : c.toNat < 97 + k
    · have ih := evP_mem th c h1 hc k hk
      split
      · simp [ih]
      · exact ih
    · have e : UInt8.ofNat (97 + k) = c := by
        have : 97 + k = c.toNat := by omega
        rw [this]; exact UInt8.ofNat_toNat
      rw [e, if_pos hc]
      simp
theorem noEv_col {th : List TrH} (he : ∀ t ∈ th, isE t.q.event = true) {c : UInt8} (h : colP (evS th) c = none) : NoEv th c := by
 intro t ht e
 have hE := he t ht
 rw [e] at hE
 have hb : 97 ≤ c.toNat ∧ c.toNat ≤ 122 := by
  simp only [isE, Bool.and_eq_true, decide_eq_true_eq, UInt8.le_iff_toNat_le] at hE
  exact hE
 have hh : hasE th c = true := by
  obtain ⟨j, hj⟩ := List.mem_iff_getElem?.1 ht
  unfold hasE
  rcases firstB_spec (evB th c) th.length with ⟨-, h2⟩ | ⟨m, h1, -⟩
  ·have h3 := h2 j (List.getElem?_eq_some_iff.1 hj).1
   unfold evB at h3
   rw [hj] at h3
   simp [e] at h3
  ·rw [h1]; rfl
 have hm := evP_mem th c hb.1 hh 26 (by omega)
 obtain ⟨k, hk⟩ := List.mem_iff_getElem?.1 hm
 have hkl := (List.getElem?_eq_some_iff.1 hk).1
 unfold colP at h
 have hsz : (evS th).size = (evP th 26).length := by show (evP th 26).toArray.size = _; simp
 rcases firstB_spec (colB (evS th) c) (evS th).size with ⟨-, h2⟩ | ⟨m, h1, -⟩
 ·have h3 := h2 k (by omega)
  unfold colB at h3
  rw [byte_in _ _ (by omega)] at h3
  have h4 : (evS th)[k]'(by omega) = c := by
   have h9 := List.getElem?_eq_some_iff.1 hk
   rw [← h9.2]; rfl
  rw [h4] at h3
  simp at h3
 ·rw [h1] at h; cases h

theorem txC_cells {C D : List Cl} (hl : D.length = C.length) (hC : ∀ c ∈ C, ClG c) (hD : ∀ c ∈ D, ClG c) (h : txC D = txC C) : D = C := by
 have e : txR true D = txR true C := by rw [← bls_txC, ← bls_txC, h]
 have hw : At ⟨(txR true C ++ [59]).toArray⟩ 0 (txR true C ++ [59]) := At.whole _
 have h59 : byte ⟨(txR true C ++ [59]).toArray⟩ (0 + (txR true C).length) = 59 := hw.right.head
 have c1 := cells_at C 0 [] hC hw.left h59
 have c2 := cells_at D 0 [] hD (by rw [show txR ([] : List Cl).isEmpty D = txR true C from e]; exact hw.left) (by rw [show txR ([] : List Cl).isEmpty D = txR true C from e]; exact h59)
 rw [hl, c1] at c2
 simp only [List.nil_append, Prod.mk.injEq] at c2
 exact c2.2.2.symm
section
variable {st : List StP} {th : List TrH} {lim : Int} {l : List Sx} {Cs : List (List Cl)} (hT : CoT st th lim l Cs) (hd : DdS st) (hta : ∀ t ∈ th, DgA t.q.acts) (hl : lim ≤ 99)
include hT hd hta hl
theorem CoT.cells_of {n : Nat} {C : List Cl} (p : Nat) (hC : Cs[n]? = some C) : cellsOf (rtR p (rts Cs)) n = C := by
 have hn := (List.getElem?_eq_some_iff.1 hC).1
 obtain ⟨q, hq⟩ := rtR_get (rts Cs) p n _ (rts_get hn)
 unfold cellsOf
 rw [hq]
 simp only
 by_cases hf : fiR (Cs.map txC) (txC C) < n
 ·have e : rtOf Cs n = .same (fiR (Cs.map txC) (txC C)) := by unfold rtOf; rw [hC]; simp only; rw [if_pos hf]
  obtain ⟨D, d1, d2, d3⟩ := rtOf_fi hC
  obtain ⟨q2, hq2⟩ := rtR_get (rts Cs) p _ _ (rts_get (List.getElem?_eq_some_iff.1 d1).1)
  rw [d2] at hq2
  rw [e]
  have e3 : (Rtx.row q (.same (fiR (Cs.map txC) (txC C)))).same = (fiR (Cs.map txC) (txC C) : Int) := rfl
  rw [e3, if_pos (by omega), Int.toNat_natCast, hq2]
  show D = C
  obtain ⟨g1, g2⟩ := hT.clg hd hta hl hC
  obtain ⟨g3, g4⟩ := hT.clg hd hta hl d1
  exact txC_cells (by rw [g1, g3]) g2 g4 d3
 ·have e : rtOf Cs n = .own C := by unfold rtOf; rw [hC]; simp only; rw [if_neg hf]
  rw [e]
  have e3 : (Rtx.row q (.own C)).same = -1 := rfl
  rw [e3, if_neg (by omega)]
  rfl
theorem CoT.sim (he : ∀ t ∈ th, isE t.q.event = true) (p : Nat) (es : ByteArray) : ∀ j, ∃ n, runS (rtR p (rts Cs)) (evS th) ⟨(begP st).out.toArray⟩ es j = (⟨(plK st th es j).out.toArray⟩, n) ∧ l[n]? = some (sxP (plK st th es j))
 | 0 => ⟨0, rfl, hT.st0⟩
 | j + 1 => by
  obtain ⟨n, h1, h2⟩ := CoT.sim he p es j
  rw [runS, h1]
  have hpl : plK st th es (j + 1) = evStep st th (plK st th es j) (byte es j) := rfl
  cases hc : colP (evS th) (byte es j) with
  | none =>
   have hno := noEv_col he hc
   rw [hpl, evStep_no hno]
   refine ⟨n, ?_, h2⟩
   simp only [Prod.mk.injEq, and_true]
   apply ByteArray.ext
   show ((⟨(plK st th es j).out.toArray⟩ : ByteArray) ++ ⟨#[46]⟩).data = _
   rw [ByteArray.data_append]
   simp
  | some k =>
   obtain ⟨hk, hb⟩ := colP_lt hc
   have hn : n < Cs.length := by rw [hT.len]; exact (List.getElem?_eq_some_iff.1 h2).1
   obtain ⟨C, hC⟩ : ∃ C, Cs[n]? = some C := ⟨_, List.getElem?_eq_getElem hn⟩
   obtain ⟨x, g1, g2, g3⟩ := hT.ci.ce n C hC
   rw [h2] at g1
   obtain rfl : sxP (plK st th es j) = x := by injection g1
   have hkC : k < C.length := by rw [g2]; exact hk
   obtain ⟨c, hcc⟩ : ∃ c, C[k]? = some c := ⟨_, List.getElem?_eq_getElem hkC⟩
   have hco : cellOf (rtR p (rts Cs)) n k = c := by
    unfold cellOf
    rw [hT.cells_of hd hta hl p hC, hcc]; rfl
   obtain ⟨q1, q2⟩ := g3 k c hcc
   rw [hb] at q1 q2
   obtain ⟨r1, r2⟩ := evStep_sp st th (plK st th es j) (byte es j)
   simp only
   rw [hco, hpl, r2]
   refine ⟨c.dst, ?_, ?_⟩
   ·simp only [Prod.mk.injEq, and_true]
    apply ByteArray.ext
    rw [ByteArray.data_append, ByteArray.data_append, q2]
    simp
   ·rw [q1, r1]
end
end Go.Proofs.YtmolmbeeoecnfaaGreatDoor
