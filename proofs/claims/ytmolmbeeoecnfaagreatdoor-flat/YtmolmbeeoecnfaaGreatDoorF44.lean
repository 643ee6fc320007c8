/- Own work: PgGZ, PgPZ. -/
import Derived.Test.YtmolmbeeoecnfaaGreatDoorF43
import Derived.Test.YtmolmbeeoecnfaaGreatDoorF41
/- Own work: walks of the document's game: marked. -/
namespace Go.Proofs.YtmolmbeeoecnfaaGreatDoor
open Go.RowKit Go.BigFrame
set_option linter.unusedVariables false
set_option linter.unusedSimpArgs false

def mkAt (trs : List TrR) (c : UInt8) (mk : ByteArray) (k : Nat) : Bool := match trs[k]? with | some t => t.target == c && decide (t.mark = mk) | none => false
def mkd (trs : List TrR) (c : UInt8) (mk : ByteArray) : Bool := (firstB (mkAt trs c mk) trs.length).isSome
set_option maxRecDepth 100000 in
set_option maxHeartbeats 1000000 in
theorem dmarked_any (w : World) (G : GC) (b : Nat) (hc : Ct w G) (hp : Cp w G b) (s : Nat) (x : StR) (hx : G.sts[s]? = some x) (mk : ByteArray) :
    Calls Tryz.prog 76 #[.pointer (some ⟨b, 0, none⟩), .int .i64 s, .string mk] w fun e w' => e = .returned (.bool (mkd G.trs x.name mk)) ∧ Fr (fun _ => False) w w' := by
  have hl4 := hc.l4
  have hl3 := hc.l3
  have hsl := (List.getElem?_eq_some_iff.1 hx).1
  have HX : Hid _ := hx
  clear hx
  go_enter Tryz.func76, Tryz.ntmps76
  go_wp2_with fail
  go_loopw [7] (fun vk wr => ∃ k : Nat, k ≤ G.trs.length ∧ vk = .int .i64 k ∧ Hid (∀ j, j < k → mkAt G.trs x.name mk j = false) ∧ Fr (fun _ => False) w wr) (fun vk _ => G.trs.length - (intOf vk).toNat)
  case atStart => exact ⟨0, Nat.zero_le _, rfl, fun j hj => (by omega), Fr.refl _ _⟩
  case round =>
    obtain ⟨k, hk, rfl, HJ, hfr⟩ := hrel
    have hcr := hc.fr0 hfr
    obtain ⟨c0, c1⟩ := hp.fr0 hfr
    have hr4 := hcr.r4
    by_cases hlt : (k : Int) < G.trs.length
    · have hlt' : k < G.trs.length := by omega
      obtain ⟨g4, cc4, hv4, hcc4⟩ := row_form hr4 (by omega)
      rw [hv4] at c1 hr4
      obtain ⟨t, ht⟩ : ∃ t, G.trs[k]? = some t := ⟨_, List.getElem?_eq_getElem hlt'⟩
      obtain ⟨-, -, -, t3, t4, -⟩ := tr6F hr4 ht
      obtain ⟨x0, -⟩ := st8 hcr.r3 HX.out
      have HM : Hid (mkAt G.trs x.name mk k = (t.target == x.name && decide (t.mark = mk))) := by show _ = _; unfold mkAt; rw [ht]
      clear ht hv4
      by_cases h1 : t.target = x.name
      · have tb : ((t.target.toNat : Int) == x.name.toNat) = true := by rw [h1]; simp
        by_cases h2 : t.mark = mk
        · have HI : Hid (mkd G.trs x.name mk = true) := by
            show _ = _
            unfold mkd
            rw [firstB_some (mkAt G.trs x.name mk) k (by rw [HM.out, h1, h2]; simp) HJ.out G.trs.length hlt']; rfl
          rw [h2] at t4
          clear h1 h2
          go_wp2_with fail
          go_big_quiet (fail)
          go_wp2_with fail
          go_ret
          exact ⟨ret_bH HI.out.symm, by (repeat (first | exact Fr.refl _ _ | assumption | refine Fr.drewNr ?_ _ | refine Fr.drewr ?_ | refine Fr.allocr ?_ _ | refine Fr.setCellr ?_ _ _ (by first | exact Or.inl rfl | (right; simp; done) | (right; simp; omega))))⟩
        · have HB : Hid (mkAt G.trs x.name mk k = false) := by show _ = _; rw [HM.out]; simp [h2]
          have h2' : ¬ t.mark.toList = mk.toList := fun e => h2 (by
            apply ByteArray.ext
            apply Array.toList_inj.1
            have e1 : t.mark.toList = t.mark.data.toList := ByteArray.toList_eq _
            have e2 : mk.toList = mk.data.toList := ByteArray.toList_eq _
            rw [← e1, ← e2, e])
          have h2b : (t.mark.toList == mk.toList) = false := by rw [beq_eq_false_iff_ne]; exact h2'
          clear h1 h2
          go_wp2_with fail
          go_big_quiet (fail)
          go_wp2_with fail
          go_roundw
          case rel => exact ⟨k + 1, by omega, by go_num, below_step HJ.out HB.out, by (repeat (first | exact Fr.refl _ _ | assumption | refine Fr.drewNr ?_ _ | refine Fr.drewr ?_ | refine Fr.allocr ?_ _ | refine Fr.setCellr ?_ _ _ (by first | exact Or.inl rfl | (right; simp; done) | (right; simp; omega))))⟩
          case measure => simp [intOf]; omega
      · have tb : ((t.target.toNat : Int) == x.name.toNat) = false := by
          rw [beq_eq_false_iff_ne]; intro h; exact h1 (UInt8.toNat_inj.1 (by omega))
        have HB : Hid (mkAt G.trs x.name mk k = false) := by show _ = _; rw [HM.out]; simp [h1]
        clear h1
        go_wp2_with fail
        go_big_quiet (fail)
        go_wp2_with fail
        go_roundw
        case rel => exact ⟨k + 1, by omega, by go_num, below_step HJ.out HB.out, by (repeat (first | exact Fr.refl _ _ | assumption | refine Fr.drewNr ?_ _ | refine Fr.drewr ?_ | refine Fr.allocr ?_ _ | refine Fr.setCellr ?_ _ _ (by first | exact Or.inl rfl | (right; simp; done) | (right; simp; omega))))⟩
        case measure => simp [intOf]; omega
    · have HI : Hid (mkd G.trs x.name mk = false) := by
        show _ = _
        unfold mkd
        rw [firstB_none (mkAt G.trs x.name mk) G.trs.length (fun j hj => HJ.out j (by omega))]; rfl
      go_wp2_with fail
      go_ret
      exact ⟨ret_bH HI.out.symm, hfr⟩

def rcB (st : List StP) (act : List Bool) (all some' : Bool) (s : Nat) : List Bool := (List.range 26).map fun i => decide (s < i) && decide (i < endAt st s) && mem act i && (all || (some' && (outAt st i == (s : Int))))
theorem rcB_mem (st : List StP) (act : List Bool) (all some' : Bool) (s i : Nat) (h : i < 26) : mem (rcB st act all some' s) i = (decide (s < i) && decide (i < endAt st s) && mem act i && (all || (some' && (outAt st i == (s : Int))))) := by
 conv => lhs; unfold mem
 simp [rcB, h]
theorem nmK_low (st : List StP) (l : List Bool) : ∀ k, (∀ i, i < k → mem l i = false) → nmK st l k = []
 | 0, _ => rfl
 | k + 1, h => by rw [nmK, if_neg (by rw [h k (by omega)]; decide), nmK_low st l k (fun i hi => h i (by omega))]
theorem nmK_high (st : List StP) (l : List Bool) (j : Nat) : ∀ k, j ≤ k → (∀ i, j ≤ i → i < k → mem l i = false) → nmK st l k = nmK st l j
  | 0, h, _ => by have : j = 0 := by omega
                  rw [this]
  | k + 1, h, hf => by
    by_cases e : j = k + 1
    · rw [e]
    · rw [nmK, if_neg (by rw [hf k (by omega) (by omega)]; decide)]
      exact nmK_high st l j k (by omega) (fun i a b => hf i a (by omega))
theorem ret_bs {l m : List UInt8} {c : UInt8} (h : l = m ++ [c]) : Value.string ((⟨m.toArray⟩ : ByteArray) ++ ⟨#[c]⟩) = .string ⟨l.toArray⟩ := by
 congr 1
 apply ByteArray.ext
 rw [ByteArray.data_append]
 apply Array.toList_inj.1
 rw [h]; simp

set_option maxRecDepth 100000 in
set_option maxHeartbeats 2000000 in
theorem drecall_any (w : World) (M : GM) (st : List StP) (act : List Bool) (me : List ByteArray) (o : ByteArray) (hg : Gm w M (onOf M.c.sts.length act) me o) (hk : Lk M.c.sts st) (htr : Tr st) (s : Nat) (x : StR) (hx : M.c.sts[s]? = some x) :
  Calls Tryz.prog 57 #[.pointer (some ⟨M.gb, 0, none⟩), .int .i64 s] w fun e w' => e = .returned (.string ⟨(nmK st (rcB st act (mkd M.c.trs x.name ⟨#[42]⟩) (mkd M.c.trs x.name ⟨#[126]⟩) s) st.length).toArray⟩) ∧ Fr (fun _ => False) w w' := by
 have HK : Hid _ := hk
 have HL : Hid (M.c.sts.length = st.length) := hk.len
 have hl3 := hg.ct.l3
 have hsl := (List.getElem?_eq_some_iff.1 hx).1
 have HX : Hid _ := hx
 obtain ⟨E1, -, -⟩ := hk.en s x hx
 have hen := htr.end_gt (k := s) (by rw [← hk.len]; exact hsl)
 rw [← E1] at hen
 have hen2 : x.end_ ≤ M.c.sts.length := by rw [hk.len]; exact hen.2
 have hen1 := hen.1
 clear hx hen hk
 go_enter Tryz.func57, Tryz.ntmps57
 go_wp2_with fail
 refine (dmarked_any w M.c M.gb hg.ct hg.cp s x HX.out ⟨#[42]⟩).mono ?_
 rintro e w1 ⟨rfl, hf1⟩
 have hg1 := hg.fr0 hf1
 go_wp2_with fail
 refine (dmarked_any w1 M.c M.gb hg1.ct hg1.cp s x HX.out ⟨#[126]⟩).mono ?_
 rintro e w2 ⟨rfl, hf2⟩
 have hf12 := hf1.thenr hf2 (fun _ _ h => h)
 clear hg1 hf1 hf2
 obtain ⟨A, hAe⟩ : ∃ A, mkd M.c.trs x.name ⟨#[42]⟩ = A := ⟨_, rfl⟩
 obtain ⟨B, hBe⟩ : ∃ B, mkd M.c.trs x.name ⟨#[126]⟩ = B := ⟨_, rfl⟩
 rw [hAe, hBe]
 have HAe : Hid _ := hAe
 have HBe : Hid _ := hBe
 clear hAe hBe
 have HR : Hid (∀ i, i < 26 → mem (rcB st act A B s) i = (decide (s < i) && decide (i < endAt st s) && mem act i && (A || (B && (outAt st i == (s : Int)))))) := fun i hi => rcB_mem st act A B s i hi
 have HLOW : Hid (nmK st (rcB st act A B s) (s + 1) = []) := nmK_low _ _ _ (fun i hi => by
  rw [rcB_mem _ _ _ _ _ _ (by omega)]
  have : ¬ s < i := by omega
  simp [this])
 have HHIGH : Hid (nmK st (rcB st act A B s) st.length = nmK st (rcB st act A B s) x.end_) := nmK_high _ _ _ _ (by rw [← HL.out]; exact hen2) (fun i h1 h2 => by
  rw [rcB_mem _ _ _ _ _ _ (by have := HL.out; omega), ← E1]
  have : ¬ i < x.end_ := by omega
  simp [this])
 rw [← E1] at HR
 have HQ : Hid (rcB st act (mkd M.c.trs x.name ⟨#[42]⟩) (mkd M.c.trs x.name ⟨#[126]⟩) s = rcB st act A B s) := by show _ = _; rw [HAe.out, HBe.out]
 clear HAe HBe
 generalize rcB st act A B s = R at *
 go_wp2_with fail
 go_loopw [7, 8] (fun vm vk wr => ∃ k : Nat, s + 1 ≤ k ∧ k ≤ x.end_ ∧ vk = .int .i64 k ∧ vm = .string ⟨(nmK st R k).toArray⟩ ∧ Fr (fun _ => False) w wr) (fun _ vk _ => x.end_ - (intOf vk).toNat)
 case atStart => exact ⟨s + 1, Nat.le_refl _, by omega, by go_num, by rw [HLOW.out], hf12⟩
 case round =>
  obtain ⟨k, hk1, hk2, rfl, rfl, hfr⟩ := hrel
  have hgr := hg.fr0 hfr
  have c4 := hgr.c4
  obtain ⟨c0, c1⟩ := hgr.cp
  obtain ⟨-, -, -, -, -, x5, -, -⟩ := st8 hgr.ct.r3 HX.out
  have hsz := nmK_len st R k
  have hsz2 : (⟨(nmK st R k).toArray⟩ : ByteArray).size = (nmK st R k).length := by show (nmK st R k).toArray.size = _; simp
  by_cases hlt : (k : Int) < x.end_
  ·have hlt' : k < M.c.sts.length := by omega
   have fk := hgr.on' hlt'
   rw [onOf_mem _ _ _ hlt'] at fk
   obtain ⟨y, hy⟩ : ∃ y, M.c.sts[k]? = some y := ⟨_, List.getElem?_eq_getElem hlt'⟩
   obtain ⟨y0, -, y2, -, -, -, -, -⟩ := st8 hgr.ct.r3 hy
   have hpy : y.parent = outAt st k := by have := HK.out.pa k; rw [parAt, hy] at this; exact this
   have HNM : Hid (y.name = nameAt st k) := (HK.out.en k y hy).2.2
   have HR : Hid _ := HR.out k (by omega)
   rw [show decide (s < k) = true by simp; omega, show decide (k < x.end_) = true by simp; omega, ← hpy] at HR
   clear hy hpy
   cases ha : mem act k with
   | false =>
    rw [ha] at fk
    have HB : Hid (nmK st R (k + 1) = nmK st R k) := by show _ = _; rw [nmK, if_neg (by rw [HR.out]; rw [ha]; simp)]
    clear ha
    generalize nmK st R k = E at *
    go_wp2_with fail
    go_roundw
    case rel => exact ⟨k + 1, by omega, by omega, by go_num, by rw [HB.out], hfr⟩
    case measure => simp [intOf]; omega
   | true =>
    rw [ha] at fk
    cases hA : A with
    | true =>
     subst hA
     have HB : Hid (nmK st R (k + 1) = nmK st R k ++ [y.name]) := by show _ = _; rw [nmK, if_pos (by rw [HR.out]; rw [ha]; simp), ← HNM.out]
     clear ha
     generalize nmK st R k = E at *
     go_wp2_with fail
     go_roundw
     case rel => exact ⟨k + 1, by omega, by omega, by go_num, ret_bs HB.out, hfr.allocr _⟩
     case measure => simp [intOf]; omega
    | false =>
     subst hA
     cases hB : B with
     | false =>
      subst hB
      have HB : Hid (nmK st R (k + 1) = nmK st R k) := by show _ = _; rw [nmK, if_neg (by rw [HR.out]; rw [ha]; simp)]
      clear ha
      generalize nmK st R k = E at *
      go_wp2_with fail
      go_roundw
      case rel => exact ⟨k + 1, by omega, by omega, by go_num, by rw [HB.out], hfr⟩
      case measure => simp [intOf]; omega
     | true =>
      subst hB
      by_cases hp : y.parent = (s : Int)
      ·have pb : (y.parent == (s : Int)) = true := by rw [beq_iff_eq]; exact hp
       have HB : Hid (nmK st R (k + 1) = nmK st R k ++ [y.name]) := by show _ = _; rw [nmK, if_pos (by rw [HR.out]; rw [ha, pb]; simp), ← HNM.out]
       clear ha hp
       generalize nmK st R k = E at *
       go_wp2_with fail
       go_roundw
       case rel => exact ⟨k + 1, by omega, by omega, by go_num, ret_bs HB.out, hfr.allocr _⟩
       case measure => simp [intOf]; omega
      ·have pb : (y.parent == (s : Int)) = false := by rw [beq_eq_false_iff_ne]; exact hp
       have HB : Hid (nmK st R (k + 1) = nmK st R k) := by show _ = _; rw [nmK, if_neg (by rw [HR.out]; rw [ha, pb]; simp)]
       clear ha hp
       generalize nmK st R k = E at *
       go_wp2_with fail
       go_roundw
       case rel => exact ⟨k + 1, by omega, by omega, by go_num, by rw [HB.out], hfr⟩
       case measure => simp [intOf]; omega
  ·have hke : k = x.end_ := by omega
   have HE : Hid ((⟨(nmK st R st.length).toArray⟩ : ByteArray) = ⟨(nmK st R k).toArray⟩) := by show _ = _; rw [HHIGH.out, hke]
   clear hke
   go_wp2_with fail
   go_ret
   exact ⟨ret_str (by rw [HQ.out]; exact HE.out.symm), hfr⟩

def Chd (st : List StP) (s k : Nat) : Prop := k < st.length ∧ outAt st k = (s : Int)
def AimT (st : List StP) (a : Am) (k : Nat) : Prop := a.target = (k : Int) ∨ ((k : Int) < a.target ∧ a.target < (endAt st k : Int))
def AimM (mm : List (List Bool)) (a : Am) (s k : Nat) : Prop := a.target = (s : Int) ∧ a.mark ≠ 0 ∧ mem (memAt mm s) k = true
def AimB (mm : List (List Bool)) (a : Am) (k : Nat) : Prop := a.memory ≠ -1 ∧ mem (memAt mm a.memory.toNat) k = true
structure AmI (st : List StP) (a : Am) : Prop where
 ok : AmOk st a
 me : a.memory ≠ -1 → a.target = -1 ∧ a.mark = 0
 mk' : a.mark = 0 ∨ a.mark = 42 ∨ a.mark = 126
def NoneTo (st : List StP) (mm : List (List Bool)) (s : Nat) (a : Am) (k : Nat) : Prop := ∀ j, s < j → j < k → Chd st s j → ¬ AimT st a j ∧ ¬ AimM mm a s j ∧ ¬ AimB mm a j
section
variable {st : List StP} {mm : List (List Bool)} {s : Nat} {a : Am} (ht : Tr st)
include ht
theorem ch_T (ha : AmI st a) {k : Nat} (hn : NoneTo st mm s a k) (hk : Chd st s k) (h : AimT st a k) : chP st mm s a = (k, a) := by
 have hr := ht.child hk.1 hk.2
 have hb := ht.below hk.1 hr.1 hr.2
 have he := ht.end_gt hk.1
 have ht0 : (k : Int) ≤ a.target ∧ a.target < (endAt st k : Int) := by
  rcases h with h | h
  ·omega
  ·omega
 have hm : a.memory = -1 := by
  by_cases e : a.memory = -1
  ·exact e
  ·have := (ha.me e).1; omega
 have hB : isB st a.target.toNat s = true := by
  unfold isB
  simp only [Bool.and_eq_true, decide_eq_true_eq]
  omega
 unfold chP
 rw [if_neg (by simp [hm]), if_neg (by omega), if_pos hB]
 have hin : ∀ j, inT st s a.target.toNat j = true ↔ s < j ∧ outAt st j = (s : Int) ∧ (j = a.target.toNat ∨ (j < a.target.toNat ∧ a.target.toNat < endAt st j)) := by
  intro j
  unfold inT isB
  simp only [Bool.and_eq_true, Bool.or_eq_true, decide_eq_true_eq, beq_iff_eq]
 have hft : firstB (inT st s a.target.toNat) (endAt st s) = some k := by
  refine firstB_some _ k ((hin k).2 ⟨hr.1, hk.2, by omega⟩) (fun j hj => ?_) _ hr.2
  cases hx : inT st s a.target.toNat j with
  | false => rfl
  | true =>
   exfalso
   obtain ⟨j1, j2, j3⟩ := (hin j).1 hx
   exact (hn j j1 hj ⟨by have := hk.1; omega, j2⟩).1 (by unfold AimT; omega)
 unfold inTo
 rw [hft]
theorem ch_M (ha : AmI st a) {k : Nat} (hn : NoneTo st mm s a k) (hk : Chd st s k) (h : AimM mm a s k) (hl : k < 26) : chP st mm s a = if a.mark = 42 then (k, ⟨-1, 0, s⟩) else (k, Am.free) := by
 have hr := ht.child hk.1 hk.2
 obtain ⟨h1, h2, h3⟩ := h
 have hm : a.memory = -1 := by
  by_cases e : a.memory = -1
  ·exact e
  ·exact absurd (ha.me e).2 h2
 have hB : ¬ isB st a.target.toNat s = true := by
  unfold isB
  simp only [Bool.and_eq_true, decide_eq_true_eq]
  omega
 have hE : emp (memAt mm s) = false := by
  cases e : emp (memAt mm s) with
  | false => rfl
  | true =>
   unfold emp at e
   rw [List.all_eq_true] at e
   have := e k (List.mem_range.2 hl)
   rw [h3] at this; cases this
 have hft : firstB (inA st s (memAt mm s)) (endAt st s) = some k := by
  refine firstB_some _ k (by unfold inA; simp [hr.1, hk.2, h3]) (fun j hj => ?_) _ hr.2
  cases hx : inA st s (memAt mm s) j with
  | false => rfl
  | true =>
   exfalso
   unfold inA at hx
   simp only [Bool.and_eq_true, decide_eq_true_eq, beq_iff_eq] at hx
   exact (hn j hx.1 hj ⟨by have := hk.1; omega, hx.2.1⟩).2.1 ⟨h1, h2, hx.2.2⟩
 have hi : inAm st s (memAt mm s) = k := by unfold inAm; rw [hft]
 unfold chP
 rw [if_neg (by simp [hm]), if_neg (by omega), if_neg hB, if_neg (by
  rintro (c | c | c)
  ·exact c h1
  ·exact h2 c
  ·rw [hE] at c; cases c), hi]
theorem ch_B {k : Nat} (hn : NoneTo st mm s a k) (hk : Chd st s k) (h : AimB mm a k) : chP st mm s a = (k, a) := by
 have hr := ht.child hk.1 hk.2
 obtain ⟨h1, h2⟩ := h
 have hft : firstB (inA st s (memAt mm a.memory.toNat)) (endAt st s) = some k := by
  refine firstB_some _ k (by unfold inA; simp [hr.1, hk.2, h2]) (fun j hj => ?_) _ hr.2
  cases hx : inA st s (memAt mm a.memory.toNat) j with
  | false => rfl
  | true =>
   exfalso
   unfold inA at hx
   simp only [Bool.and_eq_true, decide_eq_true_eq, beq_iff_eq] at hx
   exact (hn j hx.1 hj ⟨by have := hk.1; omega, hx.2.1⟩).2.2 ⟨h1, hx.2.2⟩
 unfold chP
 rw [if_pos h1]
 unfold inAm
 rw [hft]
theorem ch_end (hs : s < st.length) (ha : AmI st a) (hn : NoneTo st mm s a (endAt st s)) (h1 : a.memory ≠ -1 → ∃ k, Chd st s k ∧ mem (memAt mm a.memory.toNat) k = true) (h2 : emp (memAt mm s) = false → ∃ k, Chd st s k ∧ mem (memAt mm s) k = true) : chP st mm s a = (s + 1, Am.free) := by
 have hin : ∀ k, Chd st s k → s < k ∧ k < endAt st s := fun k hk => ht.child hk.1 hk.2
 unfold chP
 by_cases c1 : a.memory ≠ -1
 ·obtain ⟨k, k1, k2⟩ := h1 c1
  exact absurd ⟨c1, k2⟩ (hn k (hin k k1).1 (hin k k1).2 k1).2.2
 ·rw [if_neg c1]
  by_cases c2 : a.target = -1
  ·rw [if_pos c2]
  ·rw [if_neg c2]
   have ho := ha.ok
   by_cases c3 : isB st a.target.toNat s = true
   ·exfalso
    unfold isB at c3
    simp only [Bool.and_eq_true, decide_eq_true_eq] at c3
    obtain ⟨c, d1, d2, d3, d4⟩ := ht.via hs a.target.toNat c3.1 c3.2
    have h0 := ho.1
    have hcl : c < st.length := by have := ht.end_gt hs; omega
    exact (hn c d2 (by omega) ⟨hcl, d1⟩).1 (by unfold AimT; omega)
   ·rw [if_neg c3]
    by_cases c4 : a.target ≠ (s : Int) ∨ a.mark = 0 ∨ emp (memAt mm s) = true
    ·rw [if_pos c4]
    ·exfalso
     have d1 : a.target = (s : Int) := Decidable.not_not.1 (fun e => c4 (Or.inl e))
     have d2 : a.mark ≠ 0 := fun e => c4 (Or.inr (Or.inl e))
     have d3 : emp (memAt mm s) = false := by
      cases e : emp (memAt mm s) with
      | false => rfl
      | true => exact absurd (Or.inr (Or.inr e)) c4
     obtain ⟨k, k1, k2⟩ := h2 d3
     exact (hn k (hin k k1).1 (hin k k1).2 k1).2.1 ⟨d1, d2, k2⟩
end
theorem hasB_nm {st : List StP} (hN : ∀ i k, i < k → k < st.length → nameAt st i ≠ nameAt st k) (l : List Bool) {i : Nat} (hi : i < st.length) : hasB ⟨(nmK st l st.length).toArray⟩ (nameAt st i) = mem l i := by
 rw [Bool.eq_iff_iff, hasB_mem]
 show nameAt st i ∈ (nmK st l st.length).toArray.toList ↔ _
 rw [List.toList_toArray, nmK_mem]
 constructor
 ·rintro ⟨j, h1, h2, h3⟩
  have : j = i := by
   rcases Nat.lt_trichotomy j i with e | e | e
   ·exact absurd h3 (hN j i e hi)
   ·exact e
   ·exact absurd h3.symm (hN i j e h1)
  subst this; exact h2
 ·intro h1; exact ⟨i, hi, h1, rfl⟩


def MemI (st : List StP) (mm : List (List Bool)) : Prop := ∀ (i : Nat) (x : StP), st[i]? = some x → (∀ k, mem (memAt mm i) k = false) ∨ (x.rem = true ∧ ∃ act, act.length = 26 ∧ Lg st act ∧ mem act i = true ∧ memAt mm i = rmM st x.wh act i)
theorem memAt_setG (mm : List (List Bool)) (i k : Nat) (m : List Bool) : memAt (mm.set i m) k = if i = k ∧ k < mm.length then m else memAt mm k := by
 unfold memAt
 rw [List.getElem?_set]
 by_cases e : i = k
 ·by_cases e2 : k < mm.length
  ·simp [e, e2]
  ·simp [e, e2]
 ·simp [e]
theorem memI_0 (st : List StP) : MemI st py0.mm := by
 intro i x _
 left
 intro k
 have : memAt py0.mm i = noSet := by
  unfold memAt py0
  simp only
  rw [List.getElem?_replicate]
  split
  ·rename_i m hm; split at hm
   ·injection hm with hm; exact hm.symm
   ·cases hm
  ·rfl
 rw [this]; exact mem_no k
theorem memI_rm {st : List StP} (left : List Bool) : ∀ (k : Nat) (p : Py), p.act.length = 26 → Lg st p.act → (∀ i, mem left i = true → mem p.act i = true) → MemI st p.mm → MemI st (rmF st left k p).mm
 | 0, p, hl, hL, hs, hm => hm
 | k + 1, p, hl, hL, hs, hm => by
  have ih := memI_rm left k p hl hL hs hm
  have ea := rmF_act st left k p
  rw [rmF, rmS]
  split
  ·rename_i x hx
   split
   ·rename_i hc
    intro i y hy
    dsimp only
    rw [memAt_setG]
    by_cases e : k = i ∧ i < (rmF st left k p).mm.length
    ·rw [if_pos e]
     obtain ⟨e1, e2⟩ := e
     subst e1
     rw [hx] at hy
     injection hy with hy
     subst hy
     exact Or.inr ⟨hc.2, p.act, hl, hL, hs k hc.1, by rw [ea]⟩
    ·rw [if_neg e]
     exact ih i y hy
   ·exact ih
  ·exact ih
theorem memI_ch {st : List StP} {mm : List (List Bool)} (ht : Tr st) (hk : ∀ (k : Nat) (x : StP), st[k]? = some x → x.rem = true → x.kind = 1) (h : MemI st mm) {s : Nat} (hs : s < st.length) (he : emp (memAt mm s) = false) : ∃ k, Chd st s k ∧ mem (memAt mm s) k = true := by
 obtain ⟨x, hx⟩ : ∃ x, st[s]? = some x := ⟨_, List.getElem?_eq_getElem hs⟩
 have h26 := ht.wf.len
 rcases h s x hx with h1 | ⟨h1, act, a1, a2, a3, a4⟩
 ·exfalso
  have : emp (memAt mm s) = true := by
   unfold emp
   rw [List.all_eq_true]
   intro i _
   rw [h1 i]; rfl
  rw [this] at he; cases he
 ·have hkd : kindAt st s = 1 := by rw [kindAt_at hx]; exact hk s x hx h1
  obtain ⟨c, c1, c2, c3, -⟩ := (a2.loc s hs).one a3 hkd
  have hcr := ht.child c1 c2
  rw [a4]
  unfold rmM
  split
  ·refine ⟨c, ⟨c1, c2⟩, ?_⟩
   unfold actB
   rw [mem_bel _ _ _ _ (by omega)]; simp [hcr.1, hcr.2, c3]
  ·have hin : s + 1 < endAt st s := by omega
   obtain ⟨d1, d2⟩ := inAm_ch ht hs hin (actB st act s)
   exact ⟨_, ⟨d1, d2⟩, mem_set_self (by simp [noSet]; omega) true⟩
theorem memI_deep {st : List StP} {mm : List (List Bool)} (ht : Tr st) (h : MemI st mm) {m : Nat} {x : StP} (hx : st[m]? = some x) (hw : x.wh = true) {s : Nat} (hs : s < st.length) (hm : mem (memAt mm m) s = true) :
  (kindAt st s = 1 → ∃ k, Chd st s k ∧ mem (memAt mm m) k = true) ∧ (kindAt st s = 2 → ∀ k, Chd st s k → mem (memAt mm m) k = true) := by
 have h26 := ht.wf.len
 rcases h m x hx with h1 | ⟨h1, act, a1, a2, a3, a4⟩
 ·rw [h1 s] at hm; cases hm
 ·rw [a4] at hm ⊢
  have e : rmM st x.wh act m = actB st act m := by unfold rmM; rw [if_pos hw]
  rw [e] at hm ⊢
  unfold actB at hm ⊢
  rw [mem_bel _ _ _ _ (by omega)] at hm
  simp only [Bool.and_eq_true, decide_eq_true_eq] at hm
  have hin : ∀ k, Chd st s k → m < k ∧ k < endAt st m := fun k hk => by
   have h3 := ht.child hk.1 hk.2
   have h4 := ht.below hs hm.1.1 hm.1.2
   omega
  refine ⟨fun hk => ?_, fun hk k hc => ?_⟩
  ·obtain ⟨c, c1, c2, c3, -⟩ := (a2.loc s hs).one hm.2 hk
   have := hin c ⟨c1, c2⟩
   refine ⟨c, ⟨c1, c2⟩, ?_⟩
   rw [mem_bel _ _ _ _ (by omega)]; simp [this.1, this.2, c3]
  ·have := hin k hc
   have h5 := hc.1
   rw [mem_bel _ _ _ _ (by omega)]
   simp [this.1, this.2, (a2.loc s hs).all hm.2 hk k hc.1 hc.2]

structure AmE (st : List StP) (mm : List (List Bool)) (a : Am) (s : Nat) : Prop where
 i : AmI st a
 m : a.memory ≠ -1 → mem (memAt mm a.memory.toNat) s = true ∧ ∃ x, st[a.memory.toNat]? = some x ∧ x.wh = true
 w : a.mark = 42 → ∃ x, st[a.target.toNat]? = some x ∧ x.wh = true
theorem amE_free (st : List StP) (mm : List (List Bool)) (s : Nat) (h0 : 0 < st.length) : AmE st mm Am.free s :=
 ⟨⟨⟨by decide, by show (-1 : Int) < _; omega, by decide, by show (-1 : Int) < _; omega⟩, fun h => absurd rfl h, Or.inl rfl⟩, fun h => absurd rfl h, fun h => by cases h⟩
theorem inAm_mem {st : List StP} {s : Nat} {l : List Bool} (ht : Tr st) (h : ∃ k, Chd st s k ∧ mem l k = true) : mem l (inAm st s l) = true := by
 obtain ⟨k, hk, hm⟩ := h
 have hr := ht.child hk.1 hk.2
 unfold inAm
 rcases firstB_spec (inA st s l) (endAt st s) with ⟨h1, h2⟩ | ⟨j, h1, h2, h3, -⟩
 ·have := h2 k hr.2
  unfold inA at this
  simp [hr.1, hk.2, hm] at this
 ·rw [h1]
  unfold inA at h3
  simp only [Bool.and_eq_true] at h3
  exact h3.2.2
theorem chP_amE {st : List StP} {mm : List (List Bool)} (ht : Tr st) (hk : ∀ (k : Nat) (x : StP), st[k]? = some x → x.rem = true → x.kind = 1) (hM : MemI st mm) {s : Nat} {a : Am} (hs : s < st.length) (hkd : kindAt st s = 1) (ha : AmE st mm a s) :
  AmE st mm (chP st mm s a).2 (chP st mm s a).1 := by
 have h0 := ht.s0
 unfold chP
 by_cases c1 : a.memory ≠ -1
 ·rw [if_pos c1]
  obtain ⟨m1, x, m2, m3⟩ := ha.m c1
  have hd := (memI_deep ht hM m2 m3 hs m1).1 hkd
  exact ⟨ha.i, fun _ => ⟨inAm_mem ht hd, x, m2, m3⟩, ha.w⟩
 ·rw [if_neg c1]
  have c1' : a.memory = -1 := Decidable.not_not.1 c1
  split
  ·exact amE_free st mm _ h0
  ·split
   ·exact ⟨ha.i, fun e => absurd c1' e, ha.w⟩
   ·split
    ·exact amE_free st mm _ h0
    ·rename_i c4
     have d1 : a.target = (s : Int) := Decidable.not_not.1 (fun e => c4 (Or.inl e))
     have d3 : emp (memAt mm s) = false := by
      cases e : emp (memAt mm s) with
      | false => rfl
      | true => exact absurd (Or.inr (Or.inr e)) c4
     split
     ·rename_i c5
      obtain ⟨x, x1, x2⟩ := ha.w c5
      rw [d1, Int.toNat_natCast] at x1
      have hch := memI_ch ht hk hM hs d3
      refine ⟨⟨⟨by show (-1 : Int) ≤ -1; omega, by show (-1 : Int) < _; omega, by show (-1 : Int) ≤ (s : Int); omega, by show (s : Int) < _; omega⟩, fun _ => ⟨rfl, rfl⟩, Or.inl rfl⟩, fun _ => ?_, fun h => by cases h⟩
      show mem (memAt mm (s : Int).toNat) _ = true ∧ ∃ x, st[(s : Int).toNat]? = some x ∧ x.wh = true
      rw [Int.toNat_natCast]
      exact ⟨inAm_mem ht hch, x, x1, x2⟩
     ·exact amE_free st mm _ h0
theorem and_amE {st : List StP} {mm : List (List Bool)} (ht : Tr st) (hM : MemI st mm) {s : Nat} {a : Am} (hs : s < st.length) (hkd : kindAt st s = 2) (ha : AmE st mm a s) {k : Nat} (hc : Chd st s k) : AmE st mm a k := by
 refine ⟨ha.i, fun e => ?_, ha.w⟩
 obtain ⟨m1, x, m2, m3⟩ := ha.m e
 exact ⟨(memI_deep ht hM m2 m3 hs m1).2 hkd k hc, x, m2, m3⟩
theorem ch_ask {st : List StP} {mm : List (List Bool)} (ht : Tr st) (hk : ∀ (k : Nat) (x : StP), st[k]? = some x → x.rem = true → x.kind = 1) (hM : MemI st mm) {s : Nat} {a : Am} (hs : s < st.length) (hkd : kindAt st s = 1) (ha : AmE st mm a s) :
  (a.memory ≠ -1 → ∃ k, Chd st s k ∧ mem (memAt mm a.memory.toNat) k = true) ∧ (emp (memAt mm s) = false → ∃ k, Chd st s k ∧ mem (memAt mm s) k = true) := by
 refine ⟨fun e => ?_, fun e => memI_ch ht hk hM hs e⟩
 obtain ⟨m1, x, m2, m3⟩ := ha.m e
 exact (memI_deep ht hM m2 m3 hs m1).1 hkd
end Go.Proofs.YtmolmbeeoecnfaaGreatDoor
