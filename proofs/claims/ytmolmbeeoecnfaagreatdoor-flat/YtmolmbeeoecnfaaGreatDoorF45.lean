/- Own work: PgI. -/
import Derived.Test.YtmolmbeeoecnfaaGreatDoorF44
/- Own work: walks of the document's game: choose. -/
namespace Go.Proofs.YtmolmbeeoecnfaaGreatDoor
open Go.RowKit Go.BigFrame
set_option linter.unusedVariables false
set_option linter.unusedSimpArgs false

def nmT (st : List StP) (l : List Bool) : ByteArray := ⟨(nmK st l st.length).toArray⟩
def meOf (st : List StP) (mm : List (List Bool)) : List ByteArray := (List.range st.length).map fun i => nmT st (memAt mm i)
def byS (st : List StP) (mm : List (List Bool)) (a : Am) : ByteArray := if a.memory = -1 then ⟨#[]⟩ else nmT st (memAt mm a.memory.toNat)
def aimA (st : List StP) (mm : List (List Bool)) (a : Am) : Array Value := #[.int .i64 a.target, .string (mkStr a.mark), .string (byS st mm a)]
theorem meOf_len (st : List StP) (mm : List (List Bool)) : (meOf st mm).length = st.length := by simp [meOf]
theorem meOf_at (st : List StP) (mm : List (List Bool)) {i : Nat} (h : i < st.length) : (meOf st mm)[i]? = some (nmT st (memAt mm i)) := by simp [meOf, h]
theorem nmT_sz (st : List StP) (l : List Bool) : (nmT st l).size ≤ st.length := by
 have h : (nmT st l).size = (nmK st l st.length).length := by show (nmK st l st.length).toArray.size = _; simp
 rw [h]; exact nmK_len st l st.length
theorem hasB_0 (c : UInt8) : hasB ⟨#[]⟩ c = false := rfl
theorem byS_sz (st : List StP) (mm : List (List Bool)) (a : Am) : (byS st mm a).size ≤ st.length := by
 unfold byS; split
 ·exact Nat.zero_le _
 ·exact nmT_sz _ _
def mS (st : List StP) (mm : List (List Bool)) (s : Nat) (a : Am) : ByteArray := if a.target = (s : Int) ∧ a.mark ≠ 0 then nmT st (memAt mm s) else ⟨#[]⟩
theorem mS_sz (st : List StP) (mm : List (List Bool)) (s : Nat) (a : Am) : (mS st mm s a).size ≤ st.length := by
 unfold mS; split
 ·exact nmT_sz _ _
 ·exact Nat.zero_le _
def NmD (st : List StP) : Prop := ∀ i k, i < k → k < st.length → nameAt st i ≠ nameAt st k
theorem mS_has {st : List StP} (hN : NmD st) (mm : List (List Bool)) (s : Nat) (a : Am) {k : Nat} (hk : k < st.length) : hasB (mS st mm s a) (nameAt st k) = true ↔ AimM mm a s k := by
 unfold mS AimM
 split
 ·rename_i h
  show hasB ⟨(nmK st (memAt mm s) st.length).toArray⟩ _ = true ↔ _
  rw [hasB_nm hN _ hk]
  exact ⟨fun e => ⟨h.1, h.2, e⟩, fun e => e.2.2⟩
 ·rename_i h
  rw [hasB_0]
  exact ⟨fun e => (by cases e), fun e => absurd ⟨e.1, e.2.1⟩ h⟩
theorem byS_has {st : List StP} (hN : NmD st) (mm : List (List Bool)) (a : Am) {k : Nat} (hk : k < st.length) : hasB (byS st mm a) (nameAt st k) = true ↔ AimB mm a k := by
 unfold byS AimB
 split
 ·rename_i h
  rw [hasB_0]
  exact ⟨fun e => (by cases e), fun e => absurd h e.1⟩
 ·rename_i h
  show hasB ⟨(nmK st _ st.length).toArray⟩ _ = true ↔ _
  rw [hasB_nm hN _ hk]
  exact ⟨fun e => ⟨h, e⟩, fun e => e.2⟩
theorem noneTo_step {st : List StP} {mm : List (List Bool)} {s : Nat} {a : Am} {k : Nat} (h : NoneTo st mm s a k) (hk : Chd st s k → ¬ AimT st a k ∧ ¬ AimM mm a s k ∧ ¬ AimB mm a k) : NoneTo st mm s a (k + 1) := by
 intro j j1 j2 hc
 by_cases e : j = k
 ·subst e; exact hk hc
 ·exact h j j1 (by omega) hc

def ChR (st : List StP) (mm : List (List Bool)) (s : Nat) (a : Am) : Value := .tuple #[.int .i64 (chP st mm s a).1, .agg (aimA st mm (chP st mm s a).2)]
set_option maxRecDepth 100000 in
set_option maxHeartbeats 4000000 in
theorem dchoose_any (w : World) (M : GM) (st : List StP) (mm : List (List Bool)) (on : List Bool) (o : ByteArray) (hg : Gm w M on (meOf st mm) o) (hk : Lk M.c.sts st) (htr : Tr st) (hN : NmD st) (s : Nat) (a : Am) (hs : s < st.length) (ha : AmI st a)
  (h1 : a.memory ≠ -1 → ∃ k, Chd st s k ∧ mem (memAt mm a.memory.toNat) k = true) (h2 : emp (memAt mm s) = false → ∃ k, Chd st s k ∧ mem (memAt mm s) k = true) :
  Calls Tryz.prog 54 #[.pointer (some ⟨M.gb, 0, none⟩), .int .i64 s, .agg (aimA st mm a)] w fun e w' => e = .returned (ChR st mm s a) ∧ Fr (fun _ => False) w w' := by
 have HK : Hid _ := hk
 have HTR : Hid _ := htr
 have HN : Hid _ := hN
 have HAI : Hid _ := ha
 have HL : Hid (M.c.sts.length = st.length) := hk.len
 have HEND : Hid (NoneTo st mm s a (endAt st s) → chP st mm s a = (s + 1, Am.free)) := fun hn => ch_end htr hs ha hn h1 h2
 have hl3 := hg.ct.l3
 have hsl : s < M.c.sts.length := by rw [hk.len]; exact hs
 obtain ⟨x, hx⟩ : ∃ x, M.c.sts[s]? = some x := ⟨_, List.getElem?_eq_getElem hsl⟩
 obtain ⟨E1, -, -⟩ := hk.en s x hx
 have hen := htr.end_gt hs
 rw [← E1] at hen
 have hen2 : x.end_ ≤ M.c.sts.length := by rw [hk.len]; exact hen.2
 have hen1 := hen.1
 have HX : Hid _ := hx
 have HE1 : Hid _ := E1
 have hmS := mS_sz st mm s a
 have hbS := byS_sz st mm a
 rw [← hk.len] at hmS hbS
 have HMS : Hid (a.target = (s : Int) ∧ a.mark ≠ 0 → mS st mm s a = nmT st (memAt mm s)) := fun h => if_pos h
 have HM0 : Hid (¬ (a.target = (s : Int) ∧ a.mark ≠ 0) → mS st mm s a = ⟨#[]⟩) := fun h => if_neg h
 have HHM : Hid (∀ k, k < st.length → (hasB (mS st mm s a) (nameAt st k) = true ↔ AimM mm a s k)) := fun k hk => mS_has hN mm s a hk
 have HHB : Hid (∀ k, k < st.length → (hasB (byS st mm a) (nameAt st k) = true ↔ AimB mm a k)) := fun k hk => byS_has hN mm a hk
 have HME : Hid (∀ w', Fr (fun _ => False) w w' → w'.cell? ⟨M.mb, s, none⟩ = some (.string (nmT st (memAt mm s)))) := fun w' f => by
  exact (hg.fr0 f).me' (meOf_at st mm hs)
 have HAV : Hid (aimA st mm a = #[.int .i64 a.target, .string (mkStr a.mark), .string (byS st mm a)]) := rfl
 have HFREE : Hid (aimA st mm Am.free = #[.int .i64 (-1), .string ⟨#[]⟩, .string ⟨#[]⟩]) := rfl
 have HMEM : Hid (a.target = (s : Int) ∧ a.mark ≠ 0 → aimA st mm ⟨-1, 0, s⟩ = #[.int .i64 (-1), .string ⟨#[]⟩, .string (mS st mm s a)]) := fun h => by
  rw [HMS.out h]
  unfold aimA byS
  rw [if_neg (by show ¬ (s : Int) = -1; omega)]
  rfl
 rw [HAV.out]
 have HMK0 : Hid (mkStr 0 = ⟨#[]⟩) := rfl
 by_cases hc : a.target = (s : Int) ∧ a.mark ≠ 0
 ·have e0 := HMS.out hc
  rw [e0] at HHM HMEM hmS
  have HMEMv : Hid _ := HMEM.out hc
  have tb : ((s : Int) == a.target) = true := by rw [hc.1]; simp
  rcases HAI.out.mk' with hmk | hmk | hmk
  ·exact absurd hmk hc.2
  ·have HMKv : Hid (a.mark = 42) := hmk
   obtain ⟨MK, hMK⟩ : ∃ MK, mkStr a.mark = MK := ⟨_, rfl⟩
   have hMK2 : MK = ⟨#[42]⟩ := by rw [← hMK, hmk]; rfl
   rw [hMK] at HAV ⊢
   subst hMK2
   generalize nmT st (memAt mm s) = MS at *
   clear HM0 HMS hc hmk hMK e0
   have hA0' := Blk.alloc (Blk.alloc (Blk.new w #[.int .i64 a.target, .string ⟨#[42]⟩, .string (byS st mm a)] 99) (.cells #[.int .i64 0, .string ⟨#[]⟩, .string ⟨#[]⟩] 99)) (.cells #[.int .i64 (-1), .string ⟨#[]⟩, .string ⟨#[]⟩] 99)
   have hZ0' := Blk.alloc (Blk.new' (w.alloc (.cells #[.int .i64 a.target, .string ⟨#[42]⟩, .string (byS st mm a)] 99)) #[.int .i64 0, .string ⟨#[]⟩, .string ⟨#[]⟩] 99 (w.heap.size + 1) (by simp)) (.cells #[.int .i64 (-1), .string ⟨#[]⟩, .string ⟨#[]⟩] 99)
   have hN0' := Blk.new' ((w.alloc (.cells #[.int .i64 a.target, .string ⟨#[42]⟩, .string (byS st mm a)] 99)).alloc (.cells #[.int .i64 0, .string ⟨#[]⟩, .string ⟨#[]⟩] 99)) #[.int .i64 (-1), .string ⟨#[]⟩, .string ⟨#[]⟩] 99 (w.heap.size + 1 + 1) (by simp)
   have hfW' : Fr (fun _ => False) w (((w.alloc (.cells #[.int .i64 a.target, .string ⟨#[42]⟩, .string (byS st mm a)] 99)).alloc (.cells #[.int .i64 0, .string ⟨#[]⟩, .string ⟨#[]⟩] 99)).alloc (.cells #[.int .i64 (-1), .string ⟨#[]⟩, .string ⟨#[]⟩] 99)) := by (repeat (first | exact Fr.refl _ _ | assumption | refine Fr.drewNr ?_ _ | refine Fr.drewr ?_ | refine Fr.allocr ?_ _ | refine Fr.setCellr ?_ _ _ (by first | exact Or.inl rfl | (right; simp; done) | (right; simp; omega))))
   generalize hBYe : byS st mm a = BY at *
   have hgW := hg.fr0 hfW'
   have c4 := hgW.c5
   have hme := HME.out _ hfW'
   have a0 := (show (((w.alloc (.cells #[.int .i64 a.target, .string ⟨#[42]⟩, .string BY] 99)).alloc (.cells #[.int .i64 0, .string ⟨#[]⟩, .string ⟨#[]⟩] 99)).alloc (.cells #[.int .i64 (-1), .string ⟨#[]⟩, .string ⟨#[]⟩] 99)).cell? ⟨w.heap.size, 0, none⟩ = some (.int .i64 a.target) by rw [Blk.cell hA0']; rfl)
   have a1 := (show (((w.alloc (.cells #[.int .i64 a.target, .string ⟨#[42]⟩, .string BY] 99)).alloc (.cells #[.int .i64 0, .string ⟨#[]⟩, .string ⟨#[]⟩] 99)).alloc (.cells #[.int .i64 (-1), .string ⟨#[]⟩, .string ⟨#[]⟩] 99)).cell? ⟨w.heap.size, 1, none⟩ = some (.string ⟨#[42]⟩) by rw [Blk.cell hA0']; rfl)
   go_enter Tryz.func54, Tryz.ntmps54
   go_wp2_with fail
   clear c4 hme a0 a1 hgW
   have hA0 := hA0'
   have hZ0 := hZ0'
   have hN0 := hN0'
   have hfW := hfW'
   clear hA0' hZ0' hN0' hfW'
   generalize ((w.alloc (.cells #[.int .i64 a.target, .string ⟨#[42]⟩, .string BY] 99)).alloc (.cells #[.int .i64 0, .string ⟨#[]⟩, .string ⟨#[]⟩] 99)).alloc (.cells #[.int .i64 (-1), .string ⟨#[]⟩, .string ⟨#[]⟩] 99) = W at *
   generalize hab : w.heap.size = ab at *
   have HAB : Hid (w.heap.size = ab) := hab
   clear hab
   go_loopw [10] (fun vk wr => ∃ k : Nat, s + 1 ≤ k ∧ k ≤ x.end_ ∧ vk = .int .i64 k ∧ Hid (NoneTo st mm s a k) ∧ Fr (fun _ => False) W wr) (fun vk _ => x.end_ - (intOf vk).toNat)
   case atStart => exact ⟨s + 1, Nat.le_refl _, by omega, by go_num, fun j j1 j2 => (by omega), by (repeat (first | exact Fr.refl _ _ | assumption | refine Fr.drewNr ?_ _ | refine Fr.drewr ?_ | refine Fr.allocr ?_ _ | refine Fr.setCellr ?_ _ _ (by first | exact Or.inl rfl | (right; simp; done) | (right; simp; omega))))⟩
   case round =>
    obtain ⟨k, hk1, hk2, rfl, HNT, hfr⟩ := hrel
    have hfo := hfW.thenr hfr (fun _ _ h => h)
    have hgr := hg.fr0 hfo
    obtain ⟨c0, c1⟩ := hgr.cp
    obtain ⟨-, -, -, -, -, x5, -, -⟩ := st8 hgr.ct.r3 HX.out
    have hA := Blk.fr hA0 hfr (fun h => h)
    have hZ := Blk.fr hZ0 hfr (fun h => h)
    have hN' := Blk.fr hN0 hfr (fun h => h)
    have a0 : wr.cell? ⟨ab, 0, none⟩ = some (.int .i64 a.target) := by rw [Blk.cell hA]; rfl
    have a1 : wr.cell? ⟨ab, 1, none⟩ = some (.string ⟨#[42]⟩) := by rw [Blk.cell hA]; rfl
    have a2 : wr.cell? ⟨ab, 2, none⟩ = some (.string BY) := by rw [Blk.cell hA]; rfl
    have r0 : wr.cell? ⟨ab + 1, 0, none⟩ = some (.int .i64 0) := by rw [Blk.cell hZ]; rfl
    have r1 : wr.cell? ⟨ab + 1, 1, none⟩ = some (.string ⟨#[]⟩) := by rw [Blk.cell hZ]; rfl
    have r2 : wr.cell? ⟨ab + 1, 2, none⟩ = some (.string ⟨#[]⟩) := by rw [Blk.cell hZ]; rfl
    have y0 := Blk.frozen hZ 0
    have y1 := Blk.frozen hZ 1
    have y2 := Blk.frozen hZ 2
    have hrl := Blk.lt hZ
    have n0 : wr.cell? ⟨ab + 1 + 1, 0, none⟩ = some (.int .i64 (-1)) := by rw [Blk.cell hN']; rfl
    have n1 : wr.cell? ⟨ab + 1 + 1, 1, none⟩ = some (.string ⟨#[]⟩) := by rw [Blk.cell hN']; rfl
    have n2 : wr.cell? ⟨ab + 1 + 1, 2, none⟩ = some (.string ⟨#[]⟩) := by rw [Blk.cell hN']; rfl
    by_cases hlt : (k : Int) < x.end_
    ·have hlt' : k < M.c.sts.length := by omega
     have hks : k < st.length := by rw [← HL.out]; exact hlt'
     obtain ⟨y, hy⟩ : ∃ y, M.c.sts[k]? = some y := ⟨_, List.getElem?_eq_getElem hlt'⟩
     obtain ⟨w0, -, w2, -, -, -, -, -⟩ := st8 hgr.ct.r3 hy
     have hpy : y.parent = outAt st k := by have := HK.out.pa k; rw [parAt, hy] at this; exact this
     obtain ⟨E2, -, E3⟩ := HK.out.en k y hy
     have HY : Hid _ := hy
     have HHMk : Hid (hasB MS y.name = true ↔ AimM mm a s k) := by show _ ↔ _; rw [E3]; exact HHM.out k hks
     have HHBk : Hid (hasB BY y.name = true ↔ AimB mm a k) := by show _ ↔ _; rw [E3]; exact HHB.out k hks
     have HTk : Hid (AimT st a k ↔ a.target = (k : Int) ∨ ((k : Int) < a.target ∧ a.target < (y.end_ : Int))) := by show _ ↔ _; rw [E2]; exact Iff.rfl
     by_cases hp : y.parent = (s : Int)
     ·have pb : (y.parent != (s : Int)) = false := by rw [hp]; simp
      have HCH : Hid (Chd st s k) := ⟨hks, by rw [← hpy]; exact hp⟩
      have HBW : Hid (∀ w', Fr (fun _ => False) wr w' → Calls Tryz.prog 73 #[.pointer (some ⟨M.gb, 0, none⟩), .int .i64 a.target, .int .i64 k] w' fun e w'' => e = .returned (.bool (decide ((k : Int) < a.target) && decide (a.target < (y.end_ : Int)))) ∧ Fr (fun _ => False) w' w'') := fun w' f => dbelow_any w' M.c M.gb (hgr.fr0 f).ct (hgr.fr0 f).cp a.target k y HY.out
      clear hpy E2 E3 hy hp
      go_wp2_with fail
      go_region_with (go_at_call 73; refine Calls.mono (HBW.out _ ?_) ?_; (repeat (first | exact Fr.refl _ _ | assumption | refine Fr.drewNr ?_ _ | refine Fr.drewr ?_ | refine Fr.allocr ?_ _ | refine Fr.setCellr ?_ _ _ (by first | exact Or.inl rfl | (right; simp; done) | (right; simp; omega)))); rintro e w3 ⟨rfl, hf3⟩)
      all_goals
       have hf3' : Fr (fun _ => False) wr w3 := Fr.thenr (by (repeat (first | exact Fr.refl _ _ | assumption | refine Fr.drewNr ?_ _ | refine Fr.drewr ?_ | refine Fr.allocr ?_ _ | refine Fr.setCellr ?_ _ _ (by first | exact Or.inl rfl | (right; simp; done) | (right; simp; omega))))) hf3 (fun _ _ h => h)
       have hfr3 := hfr.thenr hf3' (fun _ _ h => h)
       have hfo3 := hfW.thenr hfr3 (fun _ _ h => h)
       have hg3 := hg.fr0 hfo3
       obtain ⟨c0, c1⟩ := hg3.cp
       obtain ⟨w0, -, w2, -, -, -, -, -⟩ := st8 hg3.ct.r3 HY.out
       clear a0 a1 a2 r0 r1 r2 y0 y1 y2 n0 n1 n2 hA hZ hN' hrl hf3 x5
       have hA := Blk.fr hA0 hfr3 (fun h => h)
       have hZ := Blk.fr hZ0 hfr3 (fun h => h)
       have hN' := Blk.fr hN0 hfr3 (fun h => h)
       have a0 : w3.cell? ⟨ab, 0, none⟩ = some (.int .i64 a.target) := by rw [Blk.cell hA]; rfl
       have a1 : w3.cell? ⟨ab, 1, none⟩ = some (.string ⟨#[42]⟩) := by rw [Blk.cell hA]; rfl
       have a2 : w3.cell? ⟨ab, 2, none⟩ = some (.string BY) := by rw [Blk.cell hA]; rfl
       have r0 : w3.cell? ⟨ab + 1, 0, none⟩ = some (.int .i64 0) := by rw [Blk.cell hZ]; rfl
       have r1 : w3.cell? ⟨ab + 1, 1, none⟩ = some (.string ⟨#[]⟩) := by rw [Blk.cell hZ]; rfl
       have r2 : w3.cell? ⟨ab + 1, 2, none⟩ = some (.string ⟨#[]⟩) := by rw [Blk.cell hZ]; rfl
       have y0 := Blk.frozen hZ 0
       have y1 := Blk.frozen hZ 1
       have y2 := Blk.frozen hZ 2
       have hrl := Blk.lt hZ
       have n0 : w3.cell? ⟨ab + 1 + 1, 0, none⟩ = some (.int .i64 (-1)) := by rw [Blk.cell hN']; rfl
       have n1 : w3.cell? ⟨ab + 1 + 1, 1, none⟩ = some (.string ⟨#[]⟩) := by rw [Blk.cell hN']; rfl
       have n2 : w3.cell? ⟨ab + 1 + 1, 2, none⟩ = some (.string ⟨#[]⟩) := by rw [Blk.cell hN']; rfl
       by_cases hT : AimT st a k
       ·have HRV : Hid (chP st mm s a = (k, a)) := ch_T HTR.out HAI.out HNT.out HCH.out hT
        by_cases ht1 : a.target = (k : Int)
        ·have tb : (a.target == (k : Int)) = true := by rw [beq_iff_eq]; exact ht1
         clear ht1 hT
         go_wp2_with fail
         go_region
         all_goals
          go_wp2_with fail
          refine bodyPost_ret (v := .tuple #[.int .i64 (k : Int), .agg #[.int .i64 a.target, .string ⟨#[42]⟩, .string BY]]) (by simp [results, Tryz.results54, go_sem, r0, r1, r2, hrl]) rfl ⟨by show Ending.returned _ = .returned (ChR st mm s a); unfold ChR; rw [HRV.out, HAV.out], by have hab := HAB.out; (repeat (first | exact Fr.refl _ _ | assumption | refine Fr.drewNr ?_ _ | refine Fr.drewr ?_ | refine Fr.allocr ?_ _ | refine Fr.setCellr ?_ _ _ (by first | exact Or.inl rfl | (right; simp; done) | (right; simp; omega))))⟩
        ·have tb : (a.target == (k : Int)) = false := by rw [beq_eq_false_iff_ne]; exact ht1
         have tb2 : (decide ((k : Int) < a.target) && decide (a.target < (y.end_ : Int))) = true := by
          rcases HTk.out.1 hT with h | h
          ·exact absurd h ht1
          ·simp [h.1, h.2]
         rw [tb2]
         clear ht1 hT tb2
         go_wp2_with fail
         go_region
         all_goals
          go_wp2_with fail
          refine bodyPost_ret (v := .tuple #[.int .i64 (k : Int), .agg #[.int .i64 a.target, .string ⟨#[42]⟩, .string BY]]) (by simp [results, Tryz.results54, go_sem, r0, r1, r2, hrl]) rfl ⟨by show Ending.returned _ = .returned (ChR st mm s a); unfold ChR; rw [HRV.out, HAV.out], by have hab := HAB.out; (repeat (first | exact Fr.refl _ _ | assumption | refine Fr.drewNr ?_ _ | refine Fr.drewr ?_ | refine Fr.allocr ?_ _ | refine Fr.setCellr ?_ _ _ (by first | exact Or.inl rfl | (right; simp; done) | (right; simp; omega))))⟩
       ·have tb : (a.target == (k : Int)) = false := by rw [beq_eq_false_iff_ne]; exact fun h => hT (HTk.out.2 (Or.inl h))
        have tb2 : (decide ((k : Int) < a.target) && decide (a.target < (y.end_ : Int))) = false := by
         cases e : (decide ((k : Int) < a.target) && decide (a.target < (y.end_ : Int))) with
         | false => rfl
         | true =>
          simp only [Bool.and_eq_true, decide_eq_true_eq] at e
          exact absurd (HTk.out.2 (Or.inr e)) hT
        have HNTk : Hid (¬ AimT st a k) := hT
        rw [tb2]
        clear hT tb2
        go_wp2_with fail
        refine (dhas_any w3 MS y.name (by omega)).mono ?_
        rintro e w4 ⟨rfl, hf4⟩
        have hfr4 := hfr3.thenr hf4 (fun _ _ h => h)
        have hfo4 := hfW.thenr hfr4 (fun _ _ h => h)
        have hg4 := hg.fr0 hfo4
        obtain ⟨c0, c1⟩ := hg4.cp
        obtain ⟨w0, -, w2, -, -, -, -, -⟩ := st8 hg4.ct.r3 HY.out
        clear a0 a1 a2 r0 r1 r2 y0 y1 y2 n0 n1 n2 hA hZ hN' hrl
        have hA := Blk.fr hA0 hfr4 (fun h => h)
        have hZ := Blk.fr hZ0 hfr4 (fun h => h)
        have hN' := Blk.fr hN0 hfr4 (fun h => h)
        have a0 : w4.cell? ⟨ab, 0, none⟩ = some (.int .i64 a.target) := by rw [Blk.cell hA]; rfl
        have a1 : w4.cell? ⟨ab, 1, none⟩ = some (.string ⟨#[42]⟩) := by rw [Blk.cell hA]; rfl
        have a2 : w4.cell? ⟨ab, 2, none⟩ = some (.string BY) := by rw [Blk.cell hA]; rfl
        have r0 : w4.cell? ⟨ab + 1, 0, none⟩ = some (.int .i64 0) := by rw [Blk.cell hZ]; rfl
        have r1 : w4.cell? ⟨ab + 1, 1, none⟩ = some (.string ⟨#[]⟩) := by rw [Blk.cell hZ]; rfl
        have r2 : w4.cell? ⟨ab + 1, 2, none⟩ = some (.string ⟨#[]⟩) := by rw [Blk.cell hZ]; rfl
        have y0 := Blk.frozen hZ 0
        have y1 := Blk.frozen hZ 1
        have y2 := Blk.frozen hZ 2
        have hrl := Blk.lt hZ
        have n0 : w4.cell? ⟨ab + 1 + 1, 0, none⟩ = some (.int .i64 (-1)) := by rw [Blk.cell hN']; rfl
        have n1 : w4.cell? ⟨ab + 1 + 1, 1, none⟩ = some (.string ⟨#[]⟩) := by rw [Blk.cell hN']; rfl
        have n2 : w4.cell? ⟨ab + 1 + 1, 2, none⟩ = some (.string ⟨#[]⟩) := by rw [Blk.cell hN']; rfl
        cases hM : hasB MS y.name with
        | true =>
         have HRV : Hid (chP st mm s a = (k, ⟨-1, 0, s⟩)) := by show _ = _; rw [ch_M HTR.out HAI.out HNT.out HCH.out (HHMk.out.1 hM) (by omega), if_pos HMKv.out]
         clear hM
         go_wp2_with fail
         go_wp2_with fail
         refine bodyPost_ret (v := .tuple #[.int .i64 (k : Int), .agg #[.int .i64 (-1), .string ⟨#[]⟩, .string MS]]) (by simp [results, Tryz.results54, go_sem, r0, r1, r2, hrl]) rfl ⟨by show Ending.returned _ = .returned (ChR st mm s a); unfold ChR; rw [HRV.out, HMEMv.out], by have hab := HAB.out; (repeat (first | exact Fr.refl _ _ | assumption | refine Fr.drewNr ?_ _ | refine Fr.drewr ?_ | refine Fr.allocr ?_ _ | refine Fr.setCellr ?_ _ _ (by first | exact Or.inl rfl | (right; simp; done) | (right; simp; omega))))⟩
        | false =>
         have HNM : Hid (¬ AimM mm a s k) := fun e => by rw [HHMk.out.2 e] at hM; cases hM
         clear hM
         have HHS : Hid (∀ w', Fr (fun _ => False) w4 w' → Calls Tryz.prog 74 #[.string BY, .int .u8 y.name.toNat] w' fun e w'' => e = .returned (.bool (hasB BY y.name)) ∧ Fr (fun _ => False) w' w'') := fun w' f => dhas_any w' BY y.name (by omega)
         go_wp2_with fail
         go_region_with (go_at_call 74; refine Calls.mono (HHS.out _ ?_) ?_; (repeat (first | exact Fr.refl _ _ | assumption | refine Fr.drewNr ?_ _ | refine Fr.drewr ?_ | refine Fr.allocr ?_ _ | refine Fr.setCellr ?_ _ _ (by first | exact Or.inl rfl | (right; simp; done) | (right; simp; omega)))); rintro e w5 ⟨rfl, hf5⟩)
         all_goals
          have hf5' : Fr (fun _ => False) w4 w5 := Fr.thenr (by (repeat (first | exact Fr.refl _ _ | assumption | refine Fr.drewNr ?_ _ | refine Fr.drewr ?_ | refine Fr.allocr ?_ _ | refine Fr.setCellr ?_ _ _ (by first | exact Or.inl rfl | (right; simp; done) | (right; simp; omega))))) hf5 (fun _ _ h => h)
          have hfr5 := hfr4.thenr hf5' (fun _ _ h => h)
          have hfo5 := hfW.thenr hfr5 (fun _ _ h => h)
          clear a0 a1 a2 r0 r1 r2 y0 y1 y2 n0 n1 n2 hA hZ hN' hrl hf5
          have hA := Blk.fr hA0 hfr5 (fun h => h)
          have hZ := Blk.fr hZ0 hfr5 (fun h => h)
          have hN' := Blk.fr hN0 hfr5 (fun h => h)
          have a0 : w5.cell? ⟨ab, 0, none⟩ = some (.int .i64 a.target) := by rw [Blk.cell hA]; rfl
          have a1 : w5.cell? ⟨ab, 1, none⟩ = some (.string ⟨#[42]⟩) := by rw [Blk.cell hA]; rfl
          have a2 : w5.cell? ⟨ab, 2, none⟩ = some (.string BY) := by rw [Blk.cell hA]; rfl
          have r0 : w5.cell? ⟨ab + 1, 0, none⟩ = some (.int .i64 0) := by rw [Blk.cell hZ]; rfl
          have r1 : w5.cell? ⟨ab + 1, 1, none⟩ = some (.string ⟨#[]⟩) := by rw [Blk.cell hZ]; rfl
          have r2 : w5.cell? ⟨ab + 1, 2, none⟩ = some (.string ⟨#[]⟩) := by rw [Blk.cell hZ]; rfl
          have y0 := Blk.frozen hZ 0
          have y1 := Blk.frozen hZ 1
          have y2 := Blk.frozen hZ 2
          have hrl := Blk.lt hZ
          have n0 : w5.cell? ⟨ab + 1 + 1, 0, none⟩ = some (.int .i64 (-1)) := by rw [Blk.cell hN']; rfl
          have n1 : w5.cell? ⟨ab + 1 + 1, 1, none⟩ = some (.string ⟨#[]⟩) := by rw [Blk.cell hN']; rfl
          have n2 : w5.cell? ⟨ab + 1 + 1, 2, none⟩ = some (.string ⟨#[]⟩) := by rw [Blk.cell hN']; rfl
          cases hB : hasB BY y.name with
          | true =>
           have HRV : Hid (chP st mm s a = (k, a)) := ch_B HTR.out HNT.out HCH.out (HHBk.out.1 hB)
           clear hB
           go_wp2_with fail
           go_region
           all_goals
            go_wp2_with fail
            refine bodyPost_ret (v := .tuple #[.int .i64 (k : Int), .agg #[.int .i64 a.target, .string ⟨#[42]⟩, .string BY]]) (by simp [results, Tryz.results54, go_sem, r0, r1, r2, hrl]) rfl ⟨by show Ending.returned _ = .returned (ChR st mm s a); unfold ChR; rw [HRV.out, HAV.out], by have hab := HAB.out; (repeat (first | exact Fr.refl _ _ | assumption | refine Fr.drewNr ?_ _ | refine Fr.drewr ?_ | refine Fr.allocr ?_ _ | refine Fr.setCellr ?_ _ _ (by first | exact Or.inl rfl | (right; simp; done) | (right; simp; omega))))⟩
          | false =>
           have HNB : Hid (¬ AimB mm a k) := fun e => by rw [HHBk.out.2 e] at hB; cases hB
           clear hB
           go_wp2_with fail
           go_roundw
           case rel => exact ⟨k + 1, by omega, by omega, by go_num, noneTo_step HNT.out (fun _ => ⟨HNTk.out, HNM.out, HNB.out⟩), hfr5⟩
           case measure => simp [intOf]; omega
     ·have pb : (y.parent != (s : Int)) = true := by rw [bne_iff_ne]; exact hp
      have HNC : Hid (¬ Chd st s k) := fun e => hp (by rw [hpy]; exact e.2)
      clear hpy E2 E3 hy hp
      go_wp2_with fail
      go_roundw
      case rel => exact ⟨k + 1, by omega, by omega, by go_num, noneTo_step HNT.out (fun e => absurd e HNC.out), hfr⟩
      case measure => simp [intOf]; omega
    ·have HRV : Hid (chP st mm s a = (s + 1, Am.free)) := HEND.out (by rw [← HE1.out, ← show k = x.end_ by omega]; exact HNT.out)
     go_wp2_with fail
     go_region
     all_goals
      go_wp2_with fail
      refine bodyPost_ret (v := .tuple #[.int .i64 ((s : Int) + 1), .agg #[.int .i64 (-1), .string ⟨#[]⟩, .string ⟨#[]⟩]]) (by simp [results, Tryz.results54, go_sem, r0, r1, r2, hrl]) rfl ⟨by show Ending.returned _ = .returned (ChR st mm s a); unfold ChR; rw [HRV.out, HFREE.out]; simp, by have hab := HAB.out; (repeat (first | exact Fr.refl _ _ | assumption | refine Fr.drewNr ?_ _ | refine Fr.drewr ?_ | refine Fr.allocr ?_ _ | refine Fr.setCellr ?_ _ _ (by first | exact Or.inl rfl | (right; simp; done) | (right; simp; omega))))⟩
  ·have HMKv : Hid (¬ a.mark = 42) := by show ¬ _; rw [hmk]; decide
   obtain ⟨MK, hMK⟩ : ∃ MK, mkStr a.mark = MK := ⟨_, rfl⟩
   have hMK2 : MK = ⟨#[126]⟩ := by rw [← hMK, hmk]; rfl
   rw [hMK] at HAV ⊢
   subst hMK2
   generalize nmT st (memAt mm s) = MS at *
   clear HM0 HMS hc hmk hMK e0
   have hA0' := Blk.alloc (Blk.alloc (Blk.new w #[.int .i64 a.target, .string ⟨#[126]⟩, .string (byS st mm a)] 99) (.cells #[.int .i64 0, .string ⟨#[]⟩, .string ⟨#[]⟩] 99)) (.cells #[.int .i64 (-1), .string ⟨#[]⟩, .string ⟨#[]⟩] 99)
   have hZ0' := Blk.alloc (Blk.new' (w.alloc (.cells #[.int .i64 a.target, .string ⟨#[126]⟩, .string (byS st mm a)] 99)) #[.int .i64 0, .string ⟨#[]⟩, .string ⟨#[]⟩] 99 (w.heap.size + 1) (by simp)) (.cells #[.int .i64 (-1), .string ⟨#[]⟩, .string ⟨#[]⟩] 99)
   have hN0' := Blk.new' ((w.alloc (.cells #[.int .i64 a.target, .string ⟨#[126]⟩, .string (byS st mm a)] 99)).alloc (.cells #[.int .i64 0, .string ⟨#[]⟩, .string ⟨#[]⟩] 99)) #[.int .i64 (-1), .string ⟨#[]⟩, .string ⟨#[]⟩] 99 (w.heap.size + 1 + 1) (by simp)
   have hfW' : Fr (fun _ => False) w (((w.alloc (.cells #[.int .i64 a.target, .string ⟨#[126]⟩, .string (byS st mm a)] 99)).alloc (.cells #[.int .i64 0, .string ⟨#[]⟩, .string ⟨#[]⟩] 99)).alloc (.cells #[.int .i64 (-1), .string ⟨#[]⟩, .string ⟨#[]⟩] 99)) := by (repeat (first | exact Fr.refl _ _ | assumption | refine Fr.drewNr ?_ _ | refine Fr.drewr ?_ | refine Fr.allocr ?_ _ | refine Fr.setCellr ?_ _ _ (by first | exact Or.inl rfl | (right; simp; done) | (right; simp; omega))))
   generalize hBYe : byS st mm a = BY at *
   have hgW := hg.fr0 hfW'
   have c4 := hgW.c5
   have hme := HME.out _ hfW'
   have a0 := (show (((w.alloc (.cells #[.int .i64 a.target, .string ⟨#[126]⟩, .string BY] 99)).alloc (.cells #[.int .i64 0, .string ⟨#[]⟩, .string ⟨#[]⟩] 99)).alloc (.cells #[.int .i64 (-1), .string ⟨#[]⟩, .string ⟨#[]⟩] 99)).cell? ⟨w.heap.size, 0, none⟩ = some (.int .i64 a.target) by rw [Blk.cell hA0']; rfl)
   have a1 := (show (((w.alloc (.cells #[.int .i64 a.target, .string ⟨#[126]⟩, .string BY] 99)).alloc (.cells #[.int .i64 0, .string ⟨#[]⟩, .string ⟨#[]⟩] 99)).alloc (.cells #[.int .i64 (-1), .string ⟨#[]⟩, .string ⟨#[]⟩] 99)).cell? ⟨w.heap.size, 1, none⟩ = some (.string ⟨#[126]⟩) by rw [Blk.cell hA0']; rfl)
   go_enter Tryz.func54, Tryz.ntmps54
   go_wp2_with fail
   clear c4 hme a0 a1 hgW
   have hA0 := hA0'
   have hZ0 := hZ0'
   have hN0 := hN0'
   have hfW := hfW'
   clear hA0' hZ0' hN0' hfW'
   generalize ((w.alloc (.cells #[.int .i64 a.target, .string ⟨#[126]⟩, .string BY] 99)).alloc (.cells #[.int .i64 0, .string ⟨#[]⟩, .string ⟨#[]⟩] 99)).alloc (.cells #[.int .i64 (-1), .string ⟨#[]⟩, .string ⟨#[]⟩] 99) = W at *
   generalize hab : w.heap.size = ab at *
   have HAB : Hid (w.heap.size = ab) := hab
   clear hab
   go_loopw [10] (fun vk wr => ∃ k : Nat, s + 1 ≤ k ∧ k ≤ x.end_ ∧ vk = .int .i64 k ∧ Hid (NoneTo st mm s a k) ∧ Fr (fun _ => False) W wr) (fun vk _ => x.end_ - (intOf vk).toNat)
   case atStart => exact ⟨s + 1, Nat.le_refl _, by omega, by go_num, fun j j1 j2 => (by omega), by (repeat (first | exact Fr.refl _ _ | assumption | refine Fr.drewNr ?_ _ | refine Fr.drewr ?_ | refine Fr.allocr ?_ _ | refine Fr.setCellr ?_ _ _ (by first | exact Or.inl rfl | (right; simp; done) | (right; simp; omega))))⟩
   case round =>
    obtain ⟨k, hk1, hk2, rfl, HNT, hfr⟩ := hrel
    have hfo := hfW.thenr hfr (fun _ _ h => h)
    have hgr := hg.fr0 hfo
    obtain ⟨c0, c1⟩ := hgr.cp
    obtain ⟨-, -, -, -, -, x5, -, -⟩ := st8 hgr.ct.r3 HX.out
    have hA := Blk.fr hA0 hfr (fun h => h)
    have hZ := Blk.fr hZ0 hfr (fun h => h)
    have hN' := Blk.fr hN0 hfr (fun h => h)
    have a0 : wr.cell? ⟨ab, 0, none⟩ = some (.int .i64 a.target) := by rw [Blk.cell hA]; rfl
    have a1 : wr.cell? ⟨ab, 1, none⟩ = some (.string ⟨#[126]⟩) := by rw [Blk.cell hA]; rfl
    have a2 : wr.cell? ⟨ab, 2, none⟩ = some (.string BY) := by rw [Blk.cell hA]; rfl
    have r0 : wr.cell? ⟨ab + 1, 0, none⟩ = some (.int .i64 0) := by rw [Blk.cell hZ]; rfl
    have r1 : wr.cell? ⟨ab + 1, 1, none⟩ = some (.string ⟨#[]⟩) := by rw [Blk.cell hZ]; rfl
    have r2 : wr.cell? ⟨ab + 1, 2, none⟩ = some (.string ⟨#[]⟩) := by rw [Blk.cell hZ]; rfl
    have y0 := Blk.frozen hZ 0
    have y1 := Blk.frozen hZ 1
    have y2 := Blk.frozen hZ 2
    have hrl := Blk.lt hZ
    have n0 : wr.cell? ⟨ab + 1 + 1, 0, none⟩ = some (.int .i64 (-1)) := by rw [Blk.cell hN']; rfl
    have n1 : wr.cell? ⟨ab + 1 + 1, 1, none⟩ = some (.string ⟨#[]⟩) := by rw [Blk.cell hN']; rfl
    have n2 : wr.cell? ⟨ab + 1 + 1, 2, none⟩ = some (.string ⟨#[]⟩) := by rw [Blk.cell hN']; rfl
    by_cases hlt : (k : Int) < x.end_
    ·have hlt' : k < M.c.sts.length := by omega
     have hks : k < st.length := by rw [← HL.out]; exact hlt'
     obtain ⟨y, hy⟩ : ∃ y, M.c.sts[k]? = some y := ⟨_, List.getElem?_eq_getElem hlt'⟩
     obtain ⟨w0, -, w2, -, -, -, -, -⟩ := st8 hgr.ct.r3 hy
     have hpy : y.parent = outAt st k := by have := HK.out.pa k; rw [parAt, hy] at this; exact this
     obtain ⟨E2, -, E3⟩ := HK.out.en k y hy
     have HY : Hid _ := hy
     have HHMk : Hid (hasB MS y.name = true ↔ AimM mm a s k) := by show _ ↔ _; rw [E3]; exact HHM.out k hks
     have HHBk : Hid (hasB BY y.name = true ↔ AimB mm a k) := by show _ ↔ _; rw [E3]; exact HHB.out k hks
     have HTk : Hid (AimT st a k ↔ a.target = (k : Int) ∨ ((k : Int) < a.target ∧ a.target < (y.end_ : Int))) := by show _ ↔ _; rw [E2]; exact Iff.rfl
     by_cases hp : y.parent = (s : Int)
     ·have pb : (y.parent != (s : Int)) = false := by rw [hp]; simp
      have HCH : Hid (Chd st s k) := ⟨hks, by rw [← hpy]; exact hp⟩
      have HBW : Hid (∀ w', Fr (fun _ => False) wr w' → Calls Tryz.prog 73 #[.pointer (some ⟨M.gb, 0, none⟩), .int .i64 a.target, .int .i64 k] w' fun e w'' => e = .returned (.bool (decide ((k : Int) < a.target) && decide (a.target < (y.end_ : Int)))) ∧ Fr (fun _ => False) w' w'') := fun w' f => dbelow_any w' M.c M.gb (hgr.fr0 f).ct (hgr.fr0 f).cp a.target k y HY.out
      clear hpy E2 E3 hy hp
      go_wp2_with fail
      go_region_with (go_at_call 73; refine Calls.mono (HBW.out _ ?_) ?_; (repeat (first | exact Fr.refl _ _ | assumption | refine Fr.drewNr ?_ _ | refine Fr.drewr ?_ | refine Fr.allocr ?_ _ | refine Fr.setCellr ?_ _ _ (by first | exact Or.inl rfl | (right; simp; done) | (right; simp; omega)))); rintro e w3 ⟨rfl, hf3⟩)
      all_goals
       have hf3' : Fr (fun _ => False) wr w3 := Fr.thenr (by (repeat (first | exact Fr.refl _ _ | assumption | refine Fr.drewNr ?_ _ | refine Fr.drewr ?_ | refine Fr.allocr ?_ _ | refine Fr.setCellr ?_ _ _ (by first | exact Or.inl rfl | (right; simp; done) | (right; simp; omega))))) hf3 (fun _ _ h => h)
       have hfr3 := hfr.thenr hf3' (fun _ _ h => h)
       have hfo3 := hfW.thenr hfr3 (fun _ _ h => h)
       have hg3 := hg.fr0 hfo3
       obtain ⟨c0, c1⟩ := hg3.cp
       obtain ⟨w0, -, w2, -, -, -, -, -⟩ := st8 hg3.ct.r3 HY.out
       clear a0 a1 a2 r0 r1 r2 y0 y1 y2 n0 n1 n2 hA hZ hN' hrl hf3 x5
       have hA := Blk.fr hA0 hfr3 (fun h => h)
       have hZ := Blk.fr hZ0 hfr3 (fun h => h)
       have hN' := Blk.fr hN0 hfr3 (fun h => h)
       have a0 : w3.cell? ⟨ab, 0, none⟩ = some (.int .i64 a.target) := by rw [Blk.cell hA]; rfl
       have a1 : w3.cell? ⟨ab, 1, none⟩ = some (.string ⟨#[126]⟩) := by rw [Blk.cell hA]; rfl
       have a2 : w3.cell? ⟨ab, 2, none⟩ = some (.string BY) := by rw [Blk.cell hA]; rfl
       have r0 : w3.cell? ⟨ab + 1, 0, none⟩ = some (.int .i64 0) := by rw [Blk.cell hZ]; rfl
       have r1 : w3.cell? ⟨ab + 1, 1, none⟩ = some (.string ⟨#[]⟩) := by rw [Blk.cell hZ]; rfl
       have r2 : w3.cell? ⟨ab + 1, 2, none⟩ = some (.string ⟨#[]⟩) := by rw [Blk.cell hZ]; rfl
       have y0 := Blk.frozen hZ 0
       have y1 := Blk.frozen hZ 1
       have y2 := Blk.frozen hZ 2
       have hrl := Blk.lt hZ
       have n0 : w3.cell? ⟨ab + 1 + 1, 0, none⟩ = some (.int .i64 (-1)) := by rw [Blk.cell hN']; rfl
       have n1 : w3.cell? ⟨ab + 1 + 1, 1, none⟩ = some (.string ⟨#[]⟩) := by rw [Blk.cell hN']; rfl
       have n2 : w3.cell? ⟨ab + 1 + 1, 2, none⟩ = some (.string ⟨#[]⟩) := by rw [Blk.cell hN']; rfl
       by_cases hT : AimT st a k
       ·have HRV : Hid (chP st mm s a = (k, a)) := ch_T HTR.out HAI.out HNT.out HCH.out hT
        by_cases ht1 : a.target = (k : Int)
        ·have tb : (a.target == (k : Int)) = true := by rw [beq_iff_eq]; exact ht1
         clear ht1 hT
         go_wp2_with fail
         go_region
         all_goals
          go_wp2_with fail
          refine bodyPost_ret (v := .tuple #[.int .i64 (k : Int), .agg #[.int .i64 a.target, .string ⟨#[126]⟩, .string BY]]) (by simp [results, Tryz.results54, go_sem, r0, r1, r2, hrl]) rfl ⟨by show Ending.returned _ = .returned (ChR st mm s a); unfold ChR; rw [HRV.out, HAV.out], by have hab := HAB.out; (repeat (first | exact Fr.refl _ _ | assumption | refine Fr.drewNr ?_ _ | refine Fr.drewr ?_ | refine Fr.allocr ?_ _ | refine Fr.setCellr ?_ _ _ (by first | exact Or.inl rfl | (right; simp; done) | (right; simp; omega))))⟩
        ·have tb : (a.target == (k : Int)) = false := by rw [beq_eq_false_iff_ne]; exact ht1
         have tb2 : (decide ((k : Int) < a.target) && decide (a.target < (y.end_ : Int))) = true := by
          rcases HTk.out.1 hT with h | h
          ·exact absurd h ht1
          ·simp [h.1, h.2]
         rw [tb2]
         clear ht1 hT tb2
         go_wp2_with fail
         go_region
         all_goals
          go_wp2_with fail
          refine bodyPost_ret (v := .tuple #[.int .i64 (k : Int), .agg #[.int .i64 a.target, .string ⟨#[126]⟩, .string BY]]) (by simp [results, Tryz.results54, go_sem, r0, r1, r2, hrl]) rfl ⟨by show Ending.returned _ = .returned (ChR st mm s a); unfold ChR; rw [HRV.out, HAV.out], by have hab := HAB.out; (repeat (first | exact Fr.refl _ _ | assumption | refine Fr.drewNr ?_ _ | refine Fr.drewr ?_ | refine Fr.allocr ?_ _ | refine Fr.setCellr ?_ _ _ (by first | exact Or.inl rfl | (right; simp; done) | (right; simp; omega))))⟩
       ·have tb : (a.target == (k : Int)) = false := by rw [beq_eq_false_iff_ne]; exact fun h => hT (HTk.out.2 (Or.inl h))
        have tb2 : (decide ((k : Int) < a.target) && decide (a.target < (y.end_ : Int))) = false := by
         cases e : (decide ((k : Int) < a.target) && decide (a.target < (y.end_ : Int))) with
         | false => rfl
         | true =>
          simp only [Bool.and_eq_true, decide_eq_true_eq] at e
          exact absurd (HTk.out.2 (Or.inr e)) hT
        have HNTk : Hid (¬ AimT st a k) := hT
        rw [tb2]
        clear hT tb2
        go_wp2_with fail
        refine (dhas_any w3 MS y.name (by omega)).mono ?_
        rintro e w4 ⟨rfl, hf4⟩
        have hfr4 := hfr3.thenr hf4 (fun _ _ h => h)
        have hfo4 := hfW.thenr hfr4 (fun _ _ h => h)
        have hg4 := hg.fr0 hfo4
        obtain ⟨c0, c1⟩ := hg4.cp
        obtain ⟨w0, -, w2, -, -, -, -, -⟩ := st8 hg4.ct.r3 HY.out
        clear a0 a1 a2 r0 r1 r2 y0 y1 y2 n0 n1 n2 hA hZ hN' hrl
        have hA := Blk.fr hA0 hfr4 (fun h => h)
        have hZ := Blk.fr hZ0 hfr4 (fun h => h)
        have hN' := Blk.fr hN0 hfr4 (fun h => h)
        have a0 : w4.cell? ⟨ab, 0, none⟩ = some (.int .i64 a.target) := by rw [Blk.cell hA]; rfl
        have a1 : w4.cell? ⟨ab, 1, none⟩ = some (.string ⟨#[126]⟩) := by rw [Blk.cell hA]; rfl
        have a2 : w4.cell? ⟨ab, 2, none⟩ = some (.string BY) := by rw [Blk.cell hA]; rfl
        have r0 : w4.cell? ⟨ab + 1, 0, none⟩ = some (.int .i64 0) := by rw [Blk.cell hZ]; rfl
        have r1 : w4.cell? ⟨ab + 1, 1, none⟩ = some (.string ⟨#[]⟩) := by rw [Blk.cell hZ]; rfl
        have r2 : w4.cell? ⟨ab + 1, 2, none⟩ = some (.string ⟨#[]⟩) := by rw [Blk.cell hZ]; rfl
        have y0 := Blk.frozen hZ 0
        have y1 := Blk.frozen hZ 1
        have y2 := Blk.frozen hZ 2
        have hrl := Blk.lt hZ
        have n0 : w4.cell? ⟨ab + 1 + 1, 0, none⟩ = some (.int .i64 (-1)) := by rw [Blk.cell hN']; rfl
        have n1 : w4.cell? ⟨ab + 1 + 1, 1, none⟩ = some (.string ⟨#[]⟩) := by rw [Blk.cell hN']; rfl
        have n2 : w4.cell? ⟨ab + 1 + 1, 2, none⟩ = some (.string ⟨#[]⟩) := by rw [Blk.cell hN']; rfl
        cases hM : hasB MS y.name with
        | true =>
         have HRV : Hid (chP st mm s a = (k, Am.free)) := by show _ = _; rw [ch_M HTR.out HAI.out HNT.out HCH.out (HHMk.out.1 hM) (by omega), if_neg HMKv.out]
         clear hM
         go_wp2_with fail
         go_region
         all_goals
          go_wp2_with fail
          refine bodyPost_ret (v := .tuple #[.int .i64 (k : Int), .agg #[.int .i64 (-1), .string ⟨#[]⟩, .string ⟨#[]⟩]]) (by simp [results, Tryz.results54, go_sem, r0, r1, r2, hrl]) rfl ⟨by show Ending.returned _ = .returned (ChR st mm s a); unfold ChR; rw [HRV.out, HFREE.out], by have hab := HAB.out; (repeat (first | exact Fr.refl _ _ | assumption | refine Fr.drewNr ?_ _ | refine Fr.drewr ?_ | refine Fr.allocr ?_ _ | refine Fr.setCellr ?_ _ _ (by first | exact Or.inl rfl | (right; simp; done) | (right; simp; omega))))⟩
        | false =>
         have HNM : Hid (¬ AimM mm a s k) := fun e => by rw [HHMk.out.2 e] at hM; cases hM
         clear hM
         have HHS : Hid (∀ w', Fr (fun _ => False) w4 w' → Calls Tryz.prog 74 #[.string BY, .int .u8 y.name.toNat] w' fun e w'' => e = .returned (.bool (hasB BY y.name)) ∧ Fr (fun _ => False) w' w'') := fun w' f => dhas_any w' BY y.name (by omega)
         go_wp2_with fail
         go_region_with (go_at_call 74; refine Calls.mono (HHS.out _ ?_) ?_; (repeat (first | exact Fr.refl _ _ | assumption | refine Fr.drewNr ?_ _ | refine Fr.drewr ?_ | refine Fr.allocr ?_ _ | refine Fr.setCellr ?_ _ _ (by first | exact Or.inl rfl | (right; simp; done) | (right; simp; omega)))); rintro e w5 ⟨rfl, hf5⟩)
         all_goals
          have hf5' : Fr (fun _ => False) w4 w5 := Fr.thenr (by (repeat (first | exact Fr.refl _ _ | assumption | refine Fr.drewNr ?_ _ | refine Fr.drewr ?_ | refine Fr.allocr ?_ _ | refine Fr.setCellr ?_ _ _ (by first | exact Or.inl rfl | (right; simp; done) | (right; simp; omega))))) hf5 (fun _ _ h => h)
          have hfr5 := hfr4.thenr hf5' (fun _ _ h => h)
          have hfo5 := hfW.thenr hfr5 (fun _ _ h => h)
          clear a0 a1 a2 r0 r1 r2 y0 y1 y2 n0 n1 n2 hA hZ hN' hrl hf5
          have hA := Blk.fr hA0 hfr5 (fun h => h)
          have hZ := Blk.fr hZ0 hfr5 (fun h => h)
          have hN' := Blk.fr hN0 hfr5 (fun h => h)
          have a0 : w5.cell? ⟨ab, 0, none⟩ = some (.int .i64 a.target) := by rw [Blk.cell hA]; rfl
          have a1 : w5.cell? ⟨ab, 1, none⟩ = some (.string ⟨#[126]⟩) := by rw [Blk.cell hA]; rfl
          have a2 : w5.cell? ⟨ab, 2, none⟩ = some (.string BY) := by rw [Blk.cell hA]; rfl
          have r0 : w5.cell? ⟨ab + 1, 0, none⟩ = some (.int .i64 0) := by rw [Blk.cell hZ]; rfl
          have r1 : w5.cell? ⟨ab + 1, 1, none⟩ = some (.string ⟨#[]⟩) := by rw [Blk.cell hZ]; rfl
          have r2 : w5.cell? ⟨ab + 1, 2, none⟩ = some (.string ⟨#[]⟩) := by rw [Blk.cell hZ]; rfl
          have y0 := Blk.frozen hZ 0
          have y1 := Blk.frozen hZ 1
          have y2 := Blk.frozen hZ 2
          have hrl := Blk.lt hZ
          have n0 : w5.cell? ⟨ab + 1 + 1, 0, none⟩ = some (.int .i64 (-1)) := by rw [Blk.cell hN']; rfl
          have n1 : w5.cell? ⟨ab + 1 + 1, 1, none⟩ = some (.string ⟨#[]⟩) := by rw [Blk.cell hN']; rfl
          have n2 : w5.cell? ⟨ab + 1 + 1, 2, none⟩ = some (.string ⟨#[]⟩) := by rw [Blk.cell hN']; rfl
          cases hB : hasB BY y.name with
          | true =>
           have HRV : Hid (chP st mm s a = (k, a)) := ch_B HTR.out HNT.out HCH.out (HHBk.out.1 hB)
           clear hB
           go_wp2_with fail
           go_region
           all_goals
            go_wp2_with fail
            refine bodyPost_ret (v := .tuple #[.int .i64 (k : Int), .agg #[.int .i64 a.target, .string ⟨#[126]⟩, .string BY]]) (by simp [results, Tryz.results54, go_sem, r0, r1, r2, hrl]) rfl ⟨by show Ending.returned _ = .returned (ChR st mm s a); unfold ChR; rw [HRV.out, HAV.out], by have hab := HAB.out; (repeat (first | exact Fr.refl _ _ | assumption | refine Fr.drewNr ?_ _ | refine Fr.drewr ?_ | refine Fr.allocr ?_ _ | refine Fr.setCellr ?_ _ _ (by first | exact Or.inl rfl | (right; simp; done) | (right; simp; omega))))⟩
          | false =>
           have HNB : Hid (¬ AimB mm a k) := fun e => by rw [HHBk.out.2 e] at hB; cases hB
           clear hB
           go_wp2_with fail
           go_roundw
           case rel => exact ⟨k + 1, by omega, by omega, by go_num, noneTo_step HNT.out (fun _ => ⟨HNTk.out, HNM.out, HNB.out⟩), hfr5⟩
           case measure => simp [intOf]; omega
     ·have pb : (y.parent != (s : Int)) = true := by rw [bne_iff_ne]; exact hp
      have HNC : Hid (¬ Chd st s k) := fun e => hp (by rw [hpy]; exact e.2)
      clear hpy E2 E3 hy hp
      go_wp2_with fail
      go_roundw
      case rel => exact ⟨k + 1, by omega, by omega, by go_num, noneTo_step HNT.out (fun e => absurd e HNC.out), hfr⟩
      case measure => simp [intOf]; omega
    ·have HRV : Hid (chP st mm s a = (s + 1, Am.free)) := HEND.out (by rw [← HE1.out, ← show k = x.end_ by omega]; exact HNT.out)
     go_wp2_with fail
     go_region
     all_goals
      go_wp2_with fail
      refine bodyPost_ret (v := .tuple #[.int .i64 ((s : Int) + 1), .agg #[.int .i64 (-1), .string ⟨#[]⟩, .string ⟨#[]⟩]]) (by simp [results, Tryz.results54, go_sem, r0, r1, r2, hrl]) rfl ⟨by show Ending.returned _ = .returned (ChR st mm s a); unfold ChR; rw [HRV.out, HFREE.out]; simp, by have hab := HAB.out; (repeat (first | exact Fr.refl _ _ | assumption | refine Fr.drewNr ?_ _ | refine Fr.drewr ?_ | refine Fr.allocr ?_ _ | refine Fr.setCellr ?_ _ _ (by first | exact Or.inl rfl | (right; simp; done) | (right; simp; omega))))⟩
 ·have e0 := HM0.out hc
  rw [e0] at HHM hmS
  by_cases ht0 : a.target = (s : Int)
  ·have tb : ((s : Int) == a.target) = true := by rw [ht0]; simp
   have hmk : a.mark = 0 := Decidable.not_not.1 (fun e => hc ⟨ht0, e⟩)
   obtain ⟨MK, hMK⟩ : ∃ MK, mkStr a.mark = MK := ⟨_, rfl⟩
   have hMK2 : MK = ⟨#[]⟩ := by rw [← hMK, hmk]; rfl
   rw [hMK] at HAV ⊢
   subst hMK2
   clear HM0 HMS HMEM hc hmk hMK e0 ht0
   have hA0' := Blk.alloc (Blk.alloc (Blk.new w #[.int .i64 a.target, .string ⟨#[]⟩, .string (byS st mm a)] 99) (.cells #[.int .i64 0, .string ⟨#[]⟩, .string ⟨#[]⟩] 99)) (.cells #[.int .i64 (-1), .string ⟨#[]⟩, .string ⟨#[]⟩] 99)
   have hZ0' := Blk.alloc (Blk.new' (w.alloc (.cells #[.int .i64 a.target, .string ⟨#[]⟩, .string (byS st mm a)] 99)) #[.int .i64 0, .string ⟨#[]⟩, .string ⟨#[]⟩] 99 (w.heap.size + 1) (by simp)) (.cells #[.int .i64 (-1), .string ⟨#[]⟩, .string ⟨#[]⟩] 99)
   have hN0' := Blk.new' ((w.alloc (.cells #[.int .i64 a.target, .string ⟨#[]⟩, .string (byS st mm a)] 99)).alloc (.cells #[.int .i64 0, .string ⟨#[]⟩, .string ⟨#[]⟩] 99)) #[.int .i64 (-1), .string ⟨#[]⟩, .string ⟨#[]⟩] 99 (w.heap.size + 1 + 1) (by simp)
   have hfW' : Fr (fun _ => False) w (((w.alloc (.cells #[.int .i64 a.target, .string ⟨#[]⟩, .string (byS st mm a)] 99)).alloc (.cells #[.int .i64 0, .string ⟨#[]⟩, .string ⟨#[]⟩] 99)).alloc (.cells #[.int .i64 (-1), .string ⟨#[]⟩, .string ⟨#[]⟩] 99)) := by (repeat (first | exact Fr.refl _ _ | assumption | refine Fr.drewNr ?_ _ | refine Fr.drewr ?_ | refine Fr.allocr ?_ _ | refine Fr.setCellr ?_ _ _ (by first | exact Or.inl rfl | (right; simp; done) | (right; simp; omega))))
   generalize hBYe : byS st mm a = BY at *
   have hgW := hg.fr0 hfW'
   have c4 := hgW.c5
   have hme := HME.out _ hfW'
   have a0 := (show (((w.alloc (.cells #[.int .i64 a.target, .string ⟨#[]⟩, .string BY] 99)).alloc (.cells #[.int .i64 0, .string ⟨#[]⟩, .string ⟨#[]⟩] 99)).alloc (.cells #[.int .i64 (-1), .string ⟨#[]⟩, .string ⟨#[]⟩] 99)).cell? ⟨w.heap.size, 0, none⟩ = some (.int .i64 a.target) by rw [Blk.cell hA0']; rfl)
   have a1 := (show (((w.alloc (.cells #[.int .i64 a.target, .string ⟨#[]⟩, .string BY] 99)).alloc (.cells #[.int .i64 0, .string ⟨#[]⟩, .string ⟨#[]⟩] 99)).alloc (.cells #[.int .i64 (-1), .string ⟨#[]⟩, .string ⟨#[]⟩] 99)).cell? ⟨w.heap.size, 1, none⟩ = some (.string ⟨#[]⟩) by rw [Blk.cell hA0']; rfl)
   go_enter Tryz.func54, Tryz.ntmps54
   go_wp2_with fail
   clear c4 hme a0 a1 hgW
   have hA0 := hA0'
   have hZ0 := hZ0'
   have hN0 := hN0'
   have hfW := hfW'
   clear hA0' hZ0' hN0' hfW'
   generalize ((w.alloc (.cells #[.int .i64 a.target, .string ⟨#[]⟩, .string BY] 99)).alloc (.cells #[.int .i64 0, .string ⟨#[]⟩, .string ⟨#[]⟩] 99)).alloc (.cells #[.int .i64 (-1), .string ⟨#[]⟩, .string ⟨#[]⟩] 99) = W at *
   generalize hab : w.heap.size = ab at *
   have HAB : Hid (w.heap.size = ab) := hab
   clear hab
   go_loopw [10] (fun vk wr => ∃ k : Nat, s + 1 ≤ k ∧ k ≤ x.end_ ∧ vk = .int .i64 k ∧ Hid (NoneTo st mm s a k) ∧ Fr (fun _ => False) W wr) (fun vk _ => x.end_ - (intOf vk).toNat)
   case atStart => exact ⟨s + 1, Nat.le_refl _, by omega, by go_num, fun j j1 j2 => (by omega), by (repeat (first | exact Fr.refl _ _ | assumption | refine Fr.drewNr ?_ _ | refine Fr.drewr ?_ | refine Fr.allocr ?_ _ | refine Fr.setCellr ?_ _ _ (by first | exact Or.inl rfl | (right; simp; done) | (right; simp; omega))))⟩
   case round =>
    obtain ⟨k, hk1, hk2, rfl, HNT, hfr⟩ := hrel
    have hfo := hfW.thenr hfr (fun _ _ h => h)
    have hgr := hg.fr0 hfo
    obtain ⟨c0, c1⟩ := hgr.cp
    obtain ⟨-, -, -, -, -, x5, -, -⟩ := st8 hgr.ct.r3 HX.out
    have hA := Blk.fr hA0 hfr (fun h => h)
    have hZ := Blk.fr hZ0 hfr (fun h => h)
    have hN' := Blk.fr hN0 hfr (fun h => h)
    have a0 : wr.cell? ⟨ab, 0, none⟩ = some (.int .i64 a.target) := by rw [Blk.cell hA]; rfl
    have a1 : wr.cell? ⟨ab, 1, none⟩ = some (.string ⟨#[]⟩) := by rw [Blk.cell hA]; rfl
    have a2 : wr.cell? ⟨ab, 2, none⟩ = some (.string BY) := by rw [Blk.cell hA]; rfl
    have r0 : wr.cell? ⟨ab + 1, 0, none⟩ = some (.int .i64 0) := by rw [Blk.cell hZ]; rfl
    have r1 : wr.cell? ⟨ab + 1, 1, none⟩ = some (.string ⟨#[]⟩) := by rw [Blk.cell hZ]; rfl
    have r2 : wr.cell? ⟨ab + 1, 2, none⟩ = some (.string ⟨#[]⟩) := by rw [Blk.cell hZ]; rfl
    have y0 := Blk.frozen hZ 0
    have y1 := Blk.frozen hZ 1
    have y2 := Blk.frozen hZ 2
    have hrl := Blk.lt hZ
    have n0 : wr.cell? ⟨ab + 1 + 1, 0, none⟩ = some (.int .i64 (-1)) := by rw [Blk.cell hN']; rfl
    have n1 : wr.cell? ⟨ab + 1 + 1, 1, none⟩ = some (.string ⟨#[]⟩) := by rw [Blk.cell hN']; rfl
    have n2 : wr.cell? ⟨ab + 1 + 1, 2, none⟩ = some (.string ⟨#[]⟩) := by rw [Blk.cell hN']; rfl
    by_cases hlt : (k : Int) < x.end_
    ·have hlt' : k < M.c.sts.length := by omega
     have hks : k < st.length := by rw [← HL.out]; exact hlt'
     obtain ⟨y, hy⟩ : ∃ y, M.c.sts[k]? = some y := ⟨_, List.getElem?_eq_getElem hlt'⟩
     obtain ⟨w0, -, w2, -, -, -, -, -⟩ := st8 hgr.ct.r3 hy
     have hpy : y.parent = outAt st k := by have := HK.out.pa k; rw [parAt, hy] at this; exact this
     obtain ⟨E2, -, E3⟩ := HK.out.en k y hy
     have HY : Hid _ := hy
     have HHMk : Hid (hasB ⟨#[]⟩ y.name = true ↔ AimM mm a s k) := by show _ ↔ _; rw [E3]; exact HHM.out k hks
     have HHBk : Hid (hasB BY y.name = true ↔ AimB mm a k) := by show _ ↔ _; rw [E3]; exact HHB.out k hks
     have HTk : Hid (AimT st a k ↔ a.target = (k : Int) ∨ ((k : Int) < a.target ∧ a.target < (y.end_ : Int))) := by show _ ↔ _; rw [E2]; exact Iff.rfl
     by_cases hp : y.parent = (s : Int)
     ·have pb : (y.parent != (s : Int)) = false := by rw [hp]; simp
      have HCH : Hid (Chd st s k) := ⟨hks, by rw [← hpy]; exact hp⟩
      have HBW : Hid (∀ w', Fr (fun _ => False) wr w' → Calls Tryz.prog 73 #[.pointer (some ⟨M.gb, 0, none⟩), .int .i64 a.target, .int .i64 k] w' fun e w'' => e = .returned (.bool (decide ((k : Int) < a.target) && decide (a.target < (y.end_ : Int)))) ∧ Fr (fun _ => False) w' w'') := fun w' f => dbelow_any w' M.c M.gb (hgr.fr0 f).ct (hgr.fr0 f).cp a.target k y HY.out
      clear hpy E2 E3 hy hp
      go_wp2_with fail
      go_region_with (go_at_call 73; refine Calls.mono (HBW.out _ ?_) ?_; (repeat (first | exact Fr.refl _ _ | assumption | refine Fr.drewNr ?_ _ | refine Fr.drewr ?_ | refine Fr.allocr ?_ _ | refine Fr.setCellr ?_ _ _ (by first | exact Or.inl rfl | (right; simp; done) | (right; simp; omega)))); rintro e w3 ⟨rfl, hf3⟩)
      all_goals
       have hf3' : Fr (fun _ => False) wr w3 := Fr.thenr (by (repeat (first | exact Fr.refl _ _ | assumption | refine Fr.drewNr ?_ _ | refine Fr.drewr ?_ | refine Fr.allocr ?_ _ | refine Fr.setCellr ?_ _ _ (by first | exact Or.inl rfl | (right; simp; done) | (right; simp; omega))))) hf3 (fun _ _ h => h)
       have hfr3 := hfr.thenr hf3' (fun _ _ h => h)
       have hfo3 := hfW.thenr hfr3 (fun _ _ h => h)
       have hg3 := hg.fr0 hfo3
       obtain ⟨c0, c1⟩ := hg3.cp
       obtain ⟨w0, -, w2, -, -, -, -, -⟩ := st8 hg3.ct.r3 HY.out
       clear a0 a1 a2 r0 r1 r2 y0 y1 y2 n0 n1 n2 hA hZ hN' hrl hf3 x5
       have hA := Blk.fr hA0 hfr3 (fun h => h)
       have hZ := Blk.fr hZ0 hfr3 (fun h => h)
       have hN' := Blk.fr hN0 hfr3 (fun h => h)
       have a0 : w3.cell? ⟨ab, 0, none⟩ = some (.int .i64 a.target) := by rw [Blk.cell hA]; rfl
       have a1 : w3.cell? ⟨ab, 1, none⟩ = some (.string ⟨#[]⟩) := by rw [Blk.cell hA]; rfl
       have a2 : w3.cell? ⟨ab, 2, none⟩ = some (.string BY) := by rw [Blk.cell hA]; rfl
       have r0 : w3.cell? ⟨ab + 1, 0, none⟩ = some (.int .i64 0) := by rw [Blk.cell hZ]; rfl
       have r1 : w3.cell? ⟨ab + 1, 1, none⟩ = some (.string ⟨#[]⟩) := by rw [Blk.cell hZ]; rfl
       have r2 : w3.cell? ⟨ab + 1, 2, none⟩ = some (.string ⟨#[]⟩) := by rw [Blk.cell hZ]; rfl
       have y0 := Blk.frozen hZ 0
       have y1 := Blk.frozen hZ 1
       have y2 := Blk.frozen hZ 2
       have hrl := Blk.lt hZ
       have n0 : w3.cell? ⟨ab + 1 + 1, 0, none⟩ = some (.int .i64 (-1)) := by rw [Blk.cell hN']; rfl
       have n1 : w3.cell? ⟨ab + 1 + 1, 1, none⟩ = some (.string ⟨#[]⟩) := by rw [Blk.cell hN']; rfl
       have n2 : w3.cell? ⟨ab + 1 + 1, 2, none⟩ = some (.string ⟨#[]⟩) := by rw [Blk.cell hN']; rfl
       by_cases hT : AimT st a k
       ·have HRV : Hid (chP st mm s a = (k, a)) := ch_T HTR.out HAI.out HNT.out HCH.out hT
        by_cases ht1 : a.target = (k : Int)
        ·have tb : (a.target == (k : Int)) = true := by rw [beq_iff_eq]; exact ht1
         clear ht1 hT
         go_wp2_with fail
         go_region
         all_goals
          go_wp2_with fail
          refine bodyPost_ret (v := .tuple #[.int .i64 (k : Int), .agg #[.int .i64 a.target, .string ⟨#[]⟩, .string BY]]) (by simp [results, Tryz.results54, go_sem, r0, r1, r2, hrl]) rfl ⟨by show Ending.returned _ = .returned (ChR st mm s a); unfold ChR; rw [HRV.out, HAV.out], by have hab := HAB.out; (repeat (first | exact Fr.refl _ _ | assumption | refine Fr.drewNr ?_ _ | refine Fr.drewr ?_ | refine Fr.allocr ?_ _ | refine Fr.setCellr ?_ _ _ (by first | exact Or.inl rfl | (right; simp; done) | (right; simp; omega))))⟩
        ·have tb : (a.target == (k : Int)) = false := by rw [beq_eq_false_iff_ne]; exact ht1
         have tb2 : (decide ((k : Int) < a.target) && decide (a.target < (y.end_ : Int))) = true := by
          rcases HTk.out.1 hT with h | h
          ·exact absurd h ht1
          ·simp [h.1, h.2]
         rw [tb2]
         clear ht1 hT tb2
         go_wp2_with fail
         go_region
         all_goals
          go_wp2_with fail
          refine bodyPost_ret (v := .tuple #[.int .i64 (k : Int), .agg #[.int .i64 a.target, .string ⟨#[]⟩, .string BY]]) (by simp [results, Tryz.results54, go_sem, r0, r1, r2, hrl]) rfl ⟨by show Ending.returned _ = .returned (ChR st mm s a); unfold ChR; rw [HRV.out, HAV.out], by have hab := HAB.out; (repeat (first | exact Fr.refl _ _ | assumption | refine Fr.drewNr ?_ _ | refine Fr.drewr ?_ | refine Fr.allocr ?_ _ | refine Fr.setCellr ?_ _ _ (by first | exact Or.inl rfl | (right; simp; done) | (right; simp; omega))))⟩
       ·have tb : (a.target == (k : Int)) = false := by rw [beq_eq_false_iff_ne]; exact fun h => hT (HTk.out.2 (Or.inl h))
        have tb2 : (decide ((k : Int) < a.target) && decide (a.target < (y.end_ : Int))) = false := by
         cases e : (decide ((k : Int) < a.target) && decide (a.target < (y.end_ : Int))) with
         | false => rfl
         | true =>
          simp only [Bool.and_eq_true, decide_eq_true_eq] at e
          exact absurd (HTk.out.2 (Or.inr e)) hT
        have HNTk : Hid (¬ AimT st a k) := hT
        rw [tb2]
        clear hT tb2
        go_wp2_with fail
        refine (dhas_any w3 ⟨#[]⟩ y.name (by omega)).mono ?_
        rintro e w4 ⟨rfl, hf4⟩
        have hfr4 := hfr3.thenr hf4 (fun _ _ h => h)
        have hfo4 := hfW.thenr hfr4 (fun _ _ h => h)
        have hg4 := hg.fr0 hfo4
        obtain ⟨c0, c1⟩ := hg4.cp
        obtain ⟨w0, -, w2, -, -, -, -, -⟩ := st8 hg4.ct.r3 HY.out
        clear a0 a1 a2 r0 r1 r2 y0 y1 y2 n0 n1 n2 hA hZ hN' hrl
        have hA := Blk.fr hA0 hfr4 (fun h => h)
        have hZ := Blk.fr hZ0 hfr4 (fun h => h)
        have hN' := Blk.fr hN0 hfr4 (fun h => h)
        have a0 : w4.cell? ⟨ab, 0, none⟩ = some (.int .i64 a.target) := by rw [Blk.cell hA]; rfl
        have a1 : w4.cell? ⟨ab, 1, none⟩ = some (.string ⟨#[]⟩) := by rw [Blk.cell hA]; rfl
        have a2 : w4.cell? ⟨ab, 2, none⟩ = some (.string BY) := by rw [Blk.cell hA]; rfl
        have r0 : w4.cell? ⟨ab + 1, 0, none⟩ = some (.int .i64 0) := by rw [Blk.cell hZ]; rfl
        have r1 : w4.cell? ⟨ab + 1, 1, none⟩ = some (.string ⟨#[]⟩) := by rw [Blk.cell hZ]; rfl
        have r2 : w4.cell? ⟨ab + 1, 2, none⟩ = some (.string ⟨#[]⟩) := by rw [Blk.cell hZ]; rfl
        have y0 := Blk.frozen hZ 0
        have y1 := Blk.frozen hZ 1
        have y2 := Blk.frozen hZ 2
        have hrl := Blk.lt hZ
        have n0 : w4.cell? ⟨ab + 1 + 1, 0, none⟩ = some (.int .i64 (-1)) := by rw [Blk.cell hN']; rfl
        have n1 : w4.cell? ⟨ab + 1 + 1, 1, none⟩ = some (.string ⟨#[]⟩) := by rw [Blk.cell hN']; rfl
        have n2 : w4.cell? ⟨ab + 1 + 1, 2, none⟩ = some (.string ⟨#[]⟩) := by rw [Blk.cell hN']; rfl
        cases hM : hasB ⟨#[]⟩ y.name with
        | true =>
         rw [hasB_0] at hM
         cases hM
        | false =>
         have HNM : Hid (¬ AimM mm a s k) := fun e => by rw [HHMk.out.2 e] at hM; cases hM
         clear hM
         have HHS : Hid (∀ w', Fr (fun _ => False) w4 w' → Calls Tryz.prog 74 #[.string BY, .int .u8 y.name.toNat] w' fun e w'' => e = .returned (.bool (hasB BY y.name)) ∧ Fr (fun _ => False) w' w'') := fun w' f => dhas_any w' BY y.name (by omega)
         go_wp2_with fail
         go_region_with (go_at_call 74; refine Calls.mono (HHS.out _ ?_) ?_; (repeat (first | exact Fr.refl _ _ | assumption | refine Fr.drewNr ?_ _ | refine Fr.drewr ?_ | refine Fr.allocr ?_ _ | refine Fr.setCellr ?_ _ _ (by first | exact Or.inl rfl | (right; simp; done) | (right; simp; omega)))); rintro e w5 ⟨rfl, hf5⟩)
         all_goals
          have hf5' : Fr (fun _ => False) w4 w5 := Fr.thenr (by (repeat (first | exact Fr.refl _ _ | assumption | refine Fr.drewNr ?_ _ | refine Fr.drewr ?_ | refine Fr.allocr ?_ _ | refine Fr.setCellr ?_ _ _ (by first | exact Or.inl rfl | (right; simp; done) | (right; simp; omega))))) hf5 (fun _ _ h => h)
          have hfr5 := hfr4.thenr hf5' (fun _ _ h => h)
          have hfo5 := hfW.thenr hfr5 (fun _ _ h => h)
          clear a0 a1 a2 r0 r1 r2 y0 y1 y2 n0 n1 n2 hA hZ hN' hrl hf5
          have hA := Blk.fr hA0 hfr5 (fun h => h)
          have hZ := Blk.fr hZ0 hfr5 (fun h => h)
          have hN' := Blk.fr hN0 hfr5 (fun h => h)
          have a0 : w5.cell? ⟨ab, 0, none⟩ = some (.int .i64 a.target) := by rw [Blk.cell hA]; rfl
          have a1 : w5.cell? ⟨ab, 1, none⟩ = some (.string ⟨#[]⟩) := by rw [Blk.cell hA]; rfl
          have a2 : w5.cell? ⟨ab, 2, none⟩ = some (.string BY) := by rw [Blk.cell hA]; rfl
          have r0 : w5.cell? ⟨ab + 1, 0, none⟩ = some (.int .i64 0) := by rw [Blk.cell hZ]; rfl
          have r1 : w5.cell? ⟨ab + 1, 1, none⟩ = some (.string ⟨#[]⟩) := by rw [Blk.cell hZ]; rfl
          have r2 : w5.cell? ⟨ab + 1, 2, none⟩ = some (.string ⟨#[]⟩) := by rw [Blk.cell hZ]; rfl
          have y0 := Blk.frozen hZ 0
          have y1 := Blk.frozen hZ 1
          have y2 := Blk.frozen hZ 2
          have hrl := Blk.lt hZ
          have n0 : w5.cell? ⟨ab + 1 + 1, 0, none⟩ = some (.int .i64 (-1)) := by rw [Blk.cell hN']; rfl
          have n1 : w5.cell? ⟨ab + 1 + 1, 1, none⟩ = some (.string ⟨#[]⟩) := by rw [Blk.cell hN']; rfl
          have n2 : w5.cell? ⟨ab + 1 + 1, 2, none⟩ = some (.string ⟨#[]⟩) := by rw [Blk.cell hN']; rfl
          cases hB : hasB BY y.name with
          | true =>
           have HRV : Hid (chP st mm s a = (k, a)) := ch_B HTR.out HNT.out HCH.out (HHBk.out.1 hB)
           clear hB
           go_wp2_with fail
           go_region
           all_goals
            go_wp2_with fail
            refine bodyPost_ret (v := .tuple #[.int .i64 (k : Int), .agg #[.int .i64 a.target, .string ⟨#[]⟩, .string BY]]) (by simp [results, Tryz.results54, go_sem, r0, r1, r2, hrl]) rfl ⟨by show Ending.returned _ = .returned (ChR st mm s a); unfold ChR; rw [HRV.out, HAV.out], by have hab := HAB.out; (repeat (first | exact Fr.refl _ _ | assumption | refine Fr.drewNr ?_ _ | refine Fr.drewr ?_ | refine Fr.allocr ?_ _ | refine Fr.setCellr ?_ _ _ (by first | exact Or.inl rfl | (right; simp; done) | (right; simp; omega))))⟩
          | false =>
           have HNB : Hid (¬ AimB mm a k) := fun e => by rw [HHBk.out.2 e] at hB; cases hB
           clear hB
           go_wp2_with fail
           go_roundw
           case rel => exact ⟨k + 1, by omega, by omega, by go_num, noneTo_step HNT.out (fun _ => ⟨HNTk.out, HNM.out, HNB.out⟩), hfr5⟩
           case measure => simp [intOf]; omega
     ·have pb : (y.parent != (s : Int)) = true := by rw [bne_iff_ne]; exact hp
      have HNC : Hid (¬ Chd st s k) := fun e => hp (by rw [hpy]; exact e.2)
      clear hpy E2 E3 hy hp
      go_wp2_with fail
      go_roundw
      case rel => exact ⟨k + 1, by omega, by omega, by go_num, noneTo_step HNT.out (fun e => absurd e HNC.out), hfr⟩
      case measure => simp [intOf]; omega
    ·have HRV : Hid (chP st mm s a = (s + 1, Am.free)) := HEND.out (by rw [← HE1.out, ← show k = x.end_ by omega]; exact HNT.out)
     go_wp2_with fail
     go_region
     all_goals
      go_wp2_with fail
      refine bodyPost_ret (v := .tuple #[.int .i64 ((s : Int) + 1), .agg #[.int .i64 (-1), .string ⟨#[]⟩, .string ⟨#[]⟩]]) (by simp [results, Tryz.results54, go_sem, r0, r1, r2, hrl]) rfl ⟨by show Ending.returned _ = .returned (ChR st mm s a); unfold ChR; rw [HRV.out, HFREE.out]; simp, by have hab := HAB.out; (repeat (first | exact Fr.refl _ _ | assumption | refine Fr.drewNr ?_ _ | refine Fr.drewr ?_ | refine Fr.allocr ?_ _ | refine Fr.setCellr ?_ _ _ (by first | exact Or.inl rfl | (right; simp; done) | (right; simp; omega))))⟩
  ·have tb : ((s : Int) == a.target) = false := by rw [beq_eq_false_iff_ne]; exact fun e => ht0 e.symm
   generalize mkStr a.mark = MK at *
   clear HM0 HMS HMEM hc e0 ht0
   have hA0' := Blk.alloc (Blk.alloc (Blk.new w #[.int .i64 a.target, .string MK, .string (byS st mm a)] 99) (.cells #[.int .i64 0, .string ⟨#[]⟩, .string ⟨#[]⟩] 99)) (.cells #[.int .i64 (-1), .string ⟨#[]⟩, .string ⟨#[]⟩] 99)
   have hZ0' := Blk.alloc (Blk.new' (w.alloc (.cells #[.int .i64 a.target, .string MK, .string (byS st mm a)] 99)) #[.int .i64 0, .string ⟨#[]⟩, .string ⟨#[]⟩] 99 (w.heap.size + 1) (by simp)) (.cells #[.int .i64 (-1), .string ⟨#[]⟩, .string ⟨#[]⟩] 99)
   have hN0' := Blk.new' ((w.alloc (.cells #[.int .i64 a.target, .string MK, .string (byS st mm a)] 99)).alloc (.cells #[.int .i64 0, .string ⟨#[]⟩, .string ⟨#[]⟩] 99)) #[.int .i64 (-1), .string ⟨#[]⟩, .string ⟨#[]⟩] 99 (w.heap.size + 1 + 1) (by simp)
   have hfW' : Fr (fun _ => False) w (((w.alloc (.cells #[.int .i64 a.target, .string MK, .string (byS st mm a)] 99)).alloc (.cells #[.int .i64 0, .string ⟨#[]⟩, .string ⟨#[]⟩] 99)).alloc (.cells #[.int .i64 (-1), .string ⟨#[]⟩, .string ⟨#[]⟩] 99)) := by (repeat (first | exact Fr.refl _ _ | assumption | refine Fr.drewNr ?_ _ | refine Fr.drewr ?_ | refine Fr.allocr ?_ _ | refine Fr.setCellr ?_ _ _ (by first | exact Or.inl rfl | (right; simp; done) | (right; simp; omega))))
   generalize hBYe : byS st mm a = BY at *
   have hgW := hg.fr0 hfW'
   have c4 := hgW.c5
   have hme := HME.out _ hfW'
   have a0 := (show (((w.alloc (.cells #[.int .i64 a.target, .string MK, .string BY] 99)).alloc (.cells #[.int .i64 0, .string ⟨#[]⟩, .string ⟨#[]⟩] 99)).alloc (.cells #[.int .i64 (-1), .string ⟨#[]⟩, .string ⟨#[]⟩] 99)).cell? ⟨w.heap.size, 0, none⟩ = some (.int .i64 a.target) by rw [Blk.cell hA0']; rfl)
   have a1 := (show (((w.alloc (.cells #[.int .i64 a.target, .string MK, .string BY] 99)).alloc (.cells #[.int .i64 0, .string ⟨#[]⟩, .string ⟨#[]⟩] 99)).alloc (.cells #[.int .i64 (-1), .string ⟨#[]⟩, .string ⟨#[]⟩] 99)).cell? ⟨w.heap.size, 1, none⟩ = some (.string MK) by rw [Blk.cell hA0']; rfl)
   go_enter Tryz.func54, Tryz.ntmps54
   go_wp2_with fail
   clear c4 hme a0 a1 hgW
   have hA0 := hA0'
   have hZ0 := hZ0'
   have hN0 := hN0'
   have hfW := hfW'
   clear hA0' hZ0' hN0' hfW'
   generalize ((w.alloc (.cells #[.int .i64 a.target, .string MK, .string BY] 99)).alloc (.cells #[.int .i64 0, .string ⟨#[]⟩, .string ⟨#[]⟩] 99)).alloc (.cells #[.int .i64 (-1), .string ⟨#[]⟩, .string ⟨#[]⟩] 99) = W at *
   generalize hab : w.heap.size = ab at *
   have HAB : Hid (w.heap.size = ab) := hab
   clear hab
   go_loopw [10] (fun vk wr => ∃ k : Nat, s + 1 ≤ k ∧ k ≤ x.end_ ∧ vk = .int .i64 k ∧ Hid (NoneTo st mm s a k) ∧ Fr (fun _ => False) W wr) (fun vk _ => x.end_ - (intOf vk).toNat)
   case atStart => exact ⟨s + 1, Nat.le_refl _, by omega, by go_num, fun j j1 j2 => (by omega), by (repeat (first | exact Fr.refl _ _ | assumption | refine Fr.drewNr ?_ _ | refine Fr.drewr ?_ | refine Fr.allocr ?_ _ | refine Fr.setCellr ?_ _ _ (by first | exact Or.inl rfl | (right; simp; done) | (right; simp; omega))))⟩
   case round =>
    obtain ⟨k, hk1, hk2, rfl, HNT, hfr⟩ := hrel
    have hfo := hfW.thenr hfr (fun _ _ h => h)
    have hgr := hg.fr0 hfo
    obtain ⟨c0, c1⟩ := hgr.cp
    obtain ⟨-, -, -, -, -, x5, -, -⟩ := st8 hgr.ct.r3 HX.out
    have hA := Blk.fr hA0 hfr (fun h => h)
    have hZ := Blk.fr hZ0 hfr (fun h => h)
    have hN' := Blk.fr hN0 hfr (fun h => h)
    have a0 : wr.cell? ⟨ab, 0, none⟩ = some (.int .i64 a.target) := by rw [Blk.cell hA]; rfl
    have a1 : wr.cell? ⟨ab, 1, none⟩ = some (.string MK) := by rw [Blk.cell hA]; rfl
    have a2 : wr.cell? ⟨ab, 2, none⟩ = some (.string BY) := by rw [Blk.cell hA]; rfl
    have r0 : wr.cell? ⟨ab + 1, 0, none⟩ = some (.int .i64 0) := by rw [Blk.cell hZ]; rfl
    have r1 : wr.cell? ⟨ab + 1, 1, none⟩ = some (.string ⟨#[]⟩) := by rw [Blk.cell hZ]; rfl
    have r2 : wr.cell? ⟨ab + 1, 2, none⟩ = some (.string ⟨#[]⟩) := by rw [Blk.cell hZ]; rfl
    have y0 := Blk.frozen hZ 0
    have y1 := Blk.frozen hZ 1
    have y2 := Blk.frozen hZ 2
    have hrl := Blk.lt hZ
    have n0 : wr.cell? ⟨ab + 1 + 1, 0, none⟩ = some (.int .i64 (-1)) := by rw [Blk.cell hN']; rfl
    have n1 : wr.cell? ⟨ab + 1 + 1, 1, none⟩ = some (.string ⟨#[]⟩) := by rw [Blk.cell hN']; rfl
    have n2 : wr.cell? ⟨ab + 1 + 1, 2, none⟩ = some (.string ⟨#[]⟩) := by rw [Blk.cell hN']; rfl
    by_cases hlt : (k : Int) < x.end_
    ·have hlt' : k < M.c.sts.length := by omega
     have hks : k < st.length := by rw [← HL.out]; exact hlt'
     obtain ⟨y, hy⟩ : ∃ y, M.c.sts[k]? = some y := ⟨_, List.getElem?_eq_getElem hlt'⟩
     obtain ⟨w0, -, w2, -, -, -, -, -⟩ := st8 hgr.ct.r3 hy
     have hpy : y.parent = outAt st k := by have := HK.out.pa k; rw [parAt, hy] at this; exact this
     obtain ⟨E2, -, E3⟩ := HK.out.en k y hy
     have HY : Hid _ := hy
     have HHMk : Hid (hasB ⟨#[]⟩ y.name = true ↔ AimM mm a s k) := by show _ ↔ _; rw [E3]; exact HHM.out k hks
     have HHBk : Hid (hasB BY y.name = true ↔ AimB mm a k) := by show _ ↔ _; rw [E3]; exact HHB.out k hks
     have HTk : Hid (AimT st a k ↔ a.target = (k : Int) ∨ ((k : Int) < a.target ∧ a.target < (y.end_ : Int))) := by show _ ↔ _; rw [E2]; exact Iff.rfl
     by_cases hp : y.parent = (s : Int)
     ·have pb : (y.parent != (s : Int)) = false := by rw [hp]; simp
      have HCH : Hid (Chd st s k) := ⟨hks, by rw [← hpy]; exact hp⟩
      have HBW : Hid (∀ w', Fr (fun _ => False) wr w' → Calls Tryz.prog 73 #[.pointer (some ⟨M.gb, 0, none⟩), .int .i64 a.target, .int .i64 k] w' fun e w'' => e = .returned (.bool (decide ((k : Int) < a.target) && decide (a.target < (y.end_ : Int)))) ∧ Fr (fun _ => False) w' w'') := fun w' f => dbelow_any w' M.c M.gb (hgr.fr0 f).ct (hgr.fr0 f).cp a.target k y HY.out
      clear hpy E2 E3 hy hp
      go_wp2_with fail
      go_region_with (go_at_call 73; refine Calls.mono (HBW.out _ ?_) ?_; (repeat (first | exact Fr.refl _ _ | assumption | refine Fr.drewNr ?_ _ | refine Fr.drewr ?_ | refine Fr.allocr ?_ _ | refine Fr.setCellr ?_ _ _ (by first | exact Or.inl rfl | (right; simp; done) | (right; simp; omega)))); rintro e w3 ⟨rfl, hf3⟩)
      all_goals
       have hf3' : Fr (fun _ => False) wr w3 := Fr.thenr (by (repeat (first | exact Fr.refl _ _ | assumption | refine Fr.drewNr ?_ _ | refine Fr.drewr ?_ | refine Fr.allocr ?_ _ | refine Fr.setCellr ?_ _ _ (by first | exact Or.inl rfl | (right; simp; done) | (right; simp; omega))))) hf3 (fun _ _ h => h)
       have hfr3 := hfr.thenr hf3' (fun _ _ h => h)
       have hfo3 := hfW.thenr hfr3 (fun _ _ h => h)
       have hg3 := hg.fr0 hfo3
       obtain ⟨c0, c1⟩ := hg3.cp
       obtain ⟨w0, -, w2, -, -, -, -, -⟩ := st8 hg3.ct.r3 HY.out
       clear a0 a1 a2 r0 r1 r2 y0 y1 y2 n0 n1 n2 hA hZ hN' hrl hf3 x5
       have hA := Blk.fr hA0 hfr3 (fun h => h)
       have hZ := Blk.fr hZ0 hfr3 (fun h => h)
       have hN' := Blk.fr hN0 hfr3 (fun h => h)
       have a0 : w3.cell? ⟨ab, 0, none⟩ = some (.int .i64 a.target) := by rw [Blk.cell hA]; rfl
       have a1 : w3.cell? ⟨ab, 1, none⟩ = some (.string MK) := by rw [Blk.cell hA]; rfl
       have a2 : w3.cell? ⟨ab, 2, none⟩ = some (.string BY) := by rw [Blk.cell hA]; rfl
       have r0 : w3.cell? ⟨ab + 1, 0, none⟩ = some (.int .i64 0) := by rw [Blk.cell hZ]; rfl
       have r1 : w3.cell? ⟨ab + 1, 1, none⟩ = some (.string ⟨#[]⟩) := by rw [Blk.cell hZ]; rfl
       have r2 : w3.cell? ⟨ab + 1, 2, none⟩ = some (.string ⟨#[]⟩) := by rw [Blk.cell hZ]; rfl
       have y0 := Blk.frozen hZ 0
       have y1 := Blk.frozen hZ 1
       have y2 := Blk.frozen hZ 2
       have hrl := Blk.lt hZ
       have n0 : w3.cell? ⟨ab + 1 + 1, 0, none⟩ = some (.int .i64 (-1)) := by rw [Blk.cell hN']; rfl
       have n1 : w3.cell? ⟨ab + 1 + 1, 1, none⟩ = some (.string ⟨#[]⟩) := by rw [Blk.cell hN']; rfl
       have n2 : w3.cell? ⟨ab + 1 + 1, 2, none⟩ = some (.string ⟨#[]⟩) := by rw [Blk.cell hN']; rfl
       by_cases hT : AimT st a k
       ·have HRV : Hid (chP st mm s a = (k, a)) := ch_T HTR.out HAI.out HNT.out HCH.out hT
        by_cases ht1 : a.target = (k : Int)
        ·have tb : (a.target == (k : Int)) = true := by rw [beq_iff_eq]; exact ht1
         clear ht1 hT
         go_wp2_with fail
         go_region
         all_goals
          go_wp2_with fail
          refine bodyPost_ret (v := .tuple #[.int .i64 (k : Int), .agg #[.int .i64 a.target, .string MK, .string BY]]) (by simp [results, Tryz.results54, go_sem, r0, r1, r2, hrl]) rfl ⟨by show Ending.returned _ = .returned (ChR st mm s a); unfold ChR; rw [HRV.out, HAV.out], by have hab := HAB.out; (repeat (first | exact Fr.refl _ _ | assumption | refine Fr.drewNr ?_ _ | refine Fr.drewr ?_ | refine Fr.allocr ?_ _ | refine Fr.setCellr ?_ _ _ (by first | exact Or.inl rfl | (right; simp; done) | (right; simp; omega))))⟩
        ·have tb : (a.target == (k : Int)) = false := by rw [beq_eq_false_iff_ne]; exact ht1
         have tb2 : (decide ((k : Int) < a.target) && decide (a.target < (y.end_ : Int))) = true := by
          rcases HTk.out.1 hT with h | h
          ·exact absurd h ht1
          ·simp [h.1, h.2]
         rw [tb2]
         clear ht1 hT tb2
         go_wp2_with fail
         go_region
         all_goals
          go_wp2_with fail
          refine bodyPost_ret (v := .tuple #[.int .i64 (k : Int), .agg #[.int .i64 a.target, .string MK, .string BY]]) (by simp [results, Tryz.results54, go_sem, r0, r1, r2, hrl]) rfl ⟨by show Ending.returned _ = .returned (ChR st mm s a); unfold ChR; rw [HRV.out, HAV.out], by have hab := HAB.out; (repeat (first | exact Fr.refl _ _ | assumption | refine Fr.drewNr ?_ _ | refine Fr.drewr ?_ | refine Fr.allocr ?_ _ | refine Fr.setCellr ?_ _ _ (by first | exact Or.inl rfl | (right; simp; done) | (right; simp; omega))))⟩
       ·have tb : (a.target == (k : Int)) = false := by rw [beq_eq_false_iff_ne]; exact fun h => hT (HTk.out.2 (Or.inl h))
        have tb2 : (decide ((k : Int) < a.target) && decide (a.target < (y.end_ : Int))) = false := by
         cases e : (decide ((k : Int) < a.target) && decide (a.target < (y.end_ : Int))) with
         | false => rfl
         | true =>
          simp only [Bool.and_eq_true, decide_eq_true_eq] at e
          exact absurd (HTk.out.2 (Or.inr e)) hT
        have HNTk : Hid (¬ AimT st a k) := hT
        rw [tb2]
        clear hT tb2
        go_wp2_with fail
        refine (dhas_any w3 ⟨#[]⟩ y.name (by omega)).mono ?_
        rintro e w4 ⟨rfl, hf4⟩
        have hfr4 := hfr3.thenr hf4 (fun _ _ h => h)
        have hfo4 := hfW.thenr hfr4 (fun _ _ h => h)
        have hg4 := hg.fr0 hfo4
        obtain ⟨c0, c1⟩ := hg4.cp
        obtain ⟨w0, -, w2, -, -, -, -, -⟩ := st8 hg4.ct.r3 HY.out
        clear a0 a1 a2 r0 r1 r2 y0 y1 y2 n0 n1 n2 hA hZ hN' hrl
        have hA := Blk.fr hA0 hfr4 (fun h => h)
        have hZ := Blk.fr hZ0 hfr4 (fun h => h)
        have hN' := Blk.fr hN0 hfr4 (fun h => h)
        have a0 : w4.cell? ⟨ab, 0, none⟩ = some (.int .i64 a.target) := by rw [Blk.cell hA]; rfl
        have a1 : w4.cell? ⟨ab, 1, none⟩ = some (.string MK) := by rw [Blk.cell hA]; rfl
        have a2 : w4.cell? ⟨ab, 2, none⟩ = some (.string BY) := by rw [Blk.cell hA]; rfl
        have r0 : w4.cell? ⟨ab + 1, 0, none⟩ = some (.int .i64 0) := by rw [Blk.cell hZ]; rfl
        have r1 : w4.cell? ⟨ab + 1, 1, none⟩ = some (.string ⟨#[]⟩) := by rw [Blk.cell hZ]; rfl
        have r2 : w4.cell? ⟨ab + 1, 2, none⟩ = some (.string ⟨#[]⟩) := by rw [Blk.cell hZ]; rfl
        have y0 := Blk.frozen hZ 0
        have y1 := Blk.frozen hZ 1
        have y2 := Blk.frozen hZ 2
        have hrl := Blk.lt hZ
        have n0 : w4.cell? ⟨ab + 1 + 1, 0, none⟩ = some (.int .i64 (-1)) := by rw [Blk.cell hN']; rfl
        have n1 : w4.cell? ⟨ab + 1 + 1, 1, none⟩ = some (.string ⟨#[]⟩) := by rw [Blk.cell hN']; rfl
        have n2 : w4.cell? ⟨ab + 1 + 1, 2, none⟩ = some (.string ⟨#[]⟩) := by rw [Blk.cell hN']; rfl
        cases hM : hasB ⟨#[]⟩ y.name with
        | true =>
         rw [hasB_0] at hM
         cases hM
        | false =>
         have HNM : Hid (¬ AimM mm a s k) := fun e => by rw [HHMk.out.2 e] at hM; cases hM
         clear hM
         have HHS : Hid (∀ w', Fr (fun _ => False) w4 w' → Calls Tryz.prog 74 #[.string BY, .int .u8 y.name.toNat] w' fun e w'' => e = .returned (.bool (hasB BY y.name)) ∧ Fr (fun _ => False) w' w'') := fun w' f => dhas_any w' BY y.name (by omega)
         go_wp2_with fail
         go_region_with (go_at_call 74; refine Calls.mono (HHS.out _ ?_) ?_; (repeat (first | exact Fr.refl _ _ | assumption | refine Fr.drewNr ?_ _ | refine Fr.drewr ?_ | refine Fr.allocr ?_ _ | refine Fr.setCellr ?_ _ _ (by first | exact Or.inl rfl | (right; simp; done) | (right; simp; omega)))); rintro e w5 ⟨rfl, hf5⟩)
         all_goals
          have hf5' : Fr (fun _ => False) w4 w5 := Fr.thenr (by (repeat (first | exact Fr.refl _ _ | assumption | refine Fr.drewNr ?_ _ | refine Fr.drewr ?_ | refine Fr.allocr ?_ _ | refine Fr.setCellr ?_ _ _ (by first | exact Or.inl rfl | (right; simp; done) | (right; simp; omega))))) hf5 (fun _ _ h => h)
          have hfr5 := hfr4.thenr hf5' (fun _ _ h => h)
          have hfo5 := hfW.thenr hfr5 (fun _ _ h => h)
          clear a0 a1 a2 r0 r1 r2 y0 y1 y2 n0 n1 n2 hA hZ hN' hrl hf5
          have hA := Blk.fr hA0 hfr5 (fun h => h)
          have hZ := Blk.fr hZ0 hfr5 (fun h => h)
          have hN' := Blk.fr hN0 hfr5 (fun h => h)
          have a0 : w5.cell? ⟨ab, 0, none⟩ = some (.int .i64 a.target) := by rw [Blk.cell hA]; rfl
          have a1 : w5.cell? ⟨ab, 1, none⟩ = some (.string MK) := by rw [Blk.cell hA]; rfl
          have a2 : w5.cell? ⟨ab, 2, none⟩ = some (.string BY) := by rw [Blk.cell hA]; rfl
          have r0 : w5.cell? ⟨ab + 1, 0, none⟩ = some (.int .i64 0) := by rw [Blk.cell hZ]; rfl
          have r1 : w5.cell? ⟨ab + 1, 1, none⟩ = some (.string ⟨#[]⟩) := by rw [Blk.cell hZ]; rfl
          have r2 : w5.cell? ⟨ab + 1, 2, none⟩ = some (.string ⟨#[]⟩) := by rw [Blk.cell hZ]; rfl
          have y0 := Blk.frozen hZ 0
          have y1 := Blk.frozen hZ 1
          have y2 := Blk.frozen hZ 2
          have hrl := Blk.lt hZ
          have n0 : w5.cell? ⟨ab + 1 + 1, 0, none⟩ = some (.int .i64 (-1)) := by rw [Blk.cell hN']; rfl
          have n1 : w5.cell? ⟨ab + 1 + 1, 1, none⟩ = some (.string ⟨#[]⟩) := by rw [Blk.cell hN']; rfl
          have n2 : w5.cell? ⟨ab + 1 + 1, 2, none⟩ = some (.string ⟨#[]⟩) := by rw [Blk.cell hN']; rfl
          cases hB : hasB BY y.name with
          | true =>
           have HRV : Hid (chP st mm s a = (k, a)) := ch_B HTR.out HNT.out HCH.out (HHBk.out.1 hB)
           clear hB
           go_wp2_with fail
           go_region
           all_goals
            go_wp2_with fail
            refine bodyPost_ret (v := .tuple #[.int .i64 (k : Int), .agg #[.int .i64 a.target, .string MK, .string BY]]) (by simp [results, Tryz.results54, go_sem, r0, r1, r2, hrl]) rfl ⟨by show Ending.returned _ = .returned (ChR st mm s a); unfold ChR; rw [HRV.out, HAV.out], by have hab := HAB.out; (repeat (first | exact Fr.refl _ _ | assumption | refine Fr.drewNr ?_ _ | refine Fr.drewr ?_ | refine Fr.allocr ?_ _ | refine Fr.setCellr ?_ _ _ (by first | exact Or.inl rfl | (right; simp; done) | (right; simp; omega))))⟩
          | false =>
           have HNB : Hid (¬ AimB mm a k) := fun e => by rw [HHBk.out.2 e] at hB; cases hB
           clear hB
           go_wp2_with fail
           go_roundw
           case rel => exact ⟨k + 1, by omega, by omega, by go_num, noneTo_step HNT.out (fun _ => ⟨HNTk.out, HNM.out, HNB.out⟩), hfr5⟩
           case measure => simp [intOf]; omega
     ·have pb : (y.parent != (s : Int)) = true := by rw [bne_iff_ne]; exact hp
      have HNC : Hid (¬ Chd st s k) := fun e => hp (by rw [hpy]; exact e.2)
      clear hpy E2 E3 hy hp
      go_wp2_with fail
      go_roundw
      case rel => exact ⟨k + 1, by omega, by omega, by go_num, noneTo_step HNT.out (fun e => absurd e HNC.out), hfr⟩
      case measure => simp [intOf]; omega
    ·have HRV : Hid (chP st mm s a = (s + 1, Am.free)) := HEND.out (by rw [← HE1.out, ← show k = x.end_ by omega]; exact HNT.out)
     go_wp2_with fail
     go_region
     all_goals
      go_wp2_with fail
      refine bodyPost_ret (v := .tuple #[.int .i64 ((s : Int) + 1), .agg #[.int .i64 (-1), .string ⟨#[]⟩, .string ⟨#[]⟩]]) (by simp [results, Tryz.results54, go_sem, r0, r1, r2, hrl]) rfl ⟨by show Ending.returned _ = .returned (ChR st mm s a); unfold ChR; rw [HRV.out, HFREE.out]; simp, by have hab := HAB.out; (repeat (first | exact Fr.refl _ _ | assumption | refine Fr.drewNr ?_ _ | refine Fr.drewr ?_ | refine Fr.allocr ?_ _ | refine Fr.setCellr ?_ _ _ (by first | exact Or.inl rfl | (right; simp; done) | (right; simp; omega))))⟩
end Go.Proofs.YtmolmbeeoecnfaaGreatDoor
