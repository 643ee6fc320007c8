/- Own work: PgGZ. -/
import Derived.Test.YtmolmbeeoecnfaaGreatDoorC35
/- Own work: walks of the document's game: marked. -/
namespace Go.Proofs.YtmolmbeeoecnfaaGreatDoor
open Go.RowKit Go.BigFrame
set_option linter.unusedVariables false
set_option linter.unusedSimpArgs false

def mkAt (trs : List TrR) (c : UInt8) (mk : ByteArray) (k : Nat) : Bool := match trs[k]? with | some t => t.target == c && decide (t.mark = mk) | none => false
def mkd (trs : List TrR) (c : UInt8) (mk : ByteArray) : Bool := (firstB (mkAt trs c mk) trs.length).isSome
set_option maxRecDepth 100000 in
set_option maxHeartbeats 1000000 in
theorem dmarked_any (w : World) (G : GC) (b : Nat) (hc : Ct w G) (hp : Cp w G b) (s : Nat) (x : StR) (hx : G.sts[s]? = some x) (mk : ByteArray) :
    Calls Tryz.prog 76 #[.pointer (some ⟨b, 0, none⟩), .int .i64 s, .string mk] w fun e w' => e = .returned (.bool (mkd G.trs x.name mk)) ∧ Fr (fun _ => False) w w' := by
  have hl4 := hc.l4
  have hl3 := hc.l3
  have hsl := (List.getElem?_eq_some_iff.1 hx).1
  have HX : Hid _ := hx
  clear hx
  go_enter Tryz.func76, Tryz.ntmps76
  go_wp2_with fail
  go_loopw [7] (fun vk wr => ∃ k : Nat, k ≤ G.trs.length ∧ vk = .int .i64 k ∧ Hid (∀ j, j < k → mkAt G.trs x.name mk j = false) ∧ Fr (fun _ => False) w wr) (fun vk _ => G.trs.length - (intOf vk).toNat)
  case atStart => exact ⟨0, Nat.zero_le _, rfl, fun j hj => (by omega), Fr.refl _ _⟩
  case round =>
    obtain ⟨k, hk, rfl, HJ, hfr⟩ := hrel
    have hcr := hc.fr0 hfr
    obtain ⟨c0, c1⟩ := hp.fr0 hfr
    have hr4 := hcr.r4
    by_cases hlt : (k : Int) < G.trs.length
    · have hlt' : k < G.trs.length := by omega
      obtain ⟨g4, cc4, hv4, hcc4⟩ := row_form hr4 (by omega)
      rw [hv4] at c1 hr4
      obtain ⟨t, ht⟩ : ∃ t, G.trs[k]? = some t := ⟨_, List.getElem?_eq_getElem hlt'⟩
      obtain ⟨-, -, -, t3, t4, -⟩ := tr6F hr4 ht
      obtain ⟨x0, -⟩ := st8 hcr.r3 HX.out
      have HM : Hid (mkAt G.trs x.name mk k = (t.target == x.name && decide (t.mark = mk))) := by show _ = _; unfold mkAt; rw [ht]
      clear ht hv4
      by_cases h1 : t.target = x.name
      · have tb : ((t.target.toNat : Int) == x.name.toNat) = true := by rw [h1]; simp
        by_cases h2 : t.mark = mk
        · have HI : Hid (mkd G.trs x.name mk = true) := by
            show _ = _
            unfold mkd
            rw [firstB_some (mkAt G.trs x.name mk) k (by rw [HM.out, h1, h2]; simp) HJ.out G.trs.length hlt']; rfl
          rw [h2] at t4
          clear h1 h2
          go_wp2_with fail
          go_big_quiet (fail)
          go_wp2_with fail
          go_ret
          exact ⟨ret_bH HI.out.symm, by (repeat (first | exact Fr.refl _ _ | assumption | refine Fr.drewNr ?_ _ | refine Fr.drewr ?_ | refine Fr.allocr ?_ _ | refine Fr.setCellr ?_ _ _ (by first | exact Or.inl rfl | (right; simp; done) | (right; simp; omega))))⟩
        · have HB : Hid (mkAt G.trs x.name mk k = false) := by show _ = _; rw [HM.out]; simp [h2]
          have h2' : ¬ t.mark.toList = mk.toList := fun e => h2 (by
            apply ByteArray.ext
            apply Array.toList_inj.1
            have e1 : t.mark.toList = t.mark.data.toList := ByteArray.toList_eq _
            have e2 : mk.toList = mk.data.toList := ByteArray.toList_eq _
            rw [← e1, ← e2, e])
          have h2b : (t.mark.toList == mk.toList) = false := by rw [beq_eq_false_iff_ne]; exact h2'
          clear h1 h2
          go_wp2_with fail
          go_big_quiet (fail)
          go_wp2_with fail
          go_roundw
          case rel => exact ⟨k + 1, by omega, by go_num, below_step HJ.out HB.out, by (repeat (first | exact Fr.refl _ _ | assumption | refine Fr.drewNr ?_ _ | refine Fr.drewr ?_ | refine Fr.allocr ?_ _ | refine Fr.setCellr ?_ _ _ (by first | exact Or.inl rfl | (right; simp; done) | (right; simp; omega))))⟩
          case measure => simp [intOf]; omega
      · have tb : ((t.target.toNat : Int) == x.name.toNat) = false := by
          rw [beq_eq_false_iff_ne]; intro h; exact h1 (UInt8.toNat_inj.1 (by omega))
        have HB : Hid (mkAt G.trs x.name mk k = false) := by show _ = _; rw [HM.out]; simp [h1]
        clear h1
        go_wp2_with fail
        go_big_quiet (fail)
        go_wp2_with fail
        go_roundw
        case rel => exact ⟨k + 1, by omega, by go_num, below_step HJ.out HB.out, by (repeat (first | exact Fr.refl _ _ | assumption | refine Fr.drewNr ?_ _ | refine Fr.drewr ?_ | refine Fr.allocr ?_ _ | refine Fr.setCellr ?_ _ _ (by first | exact Or.inl rfl | (right; simp; done) | (right; simp; omega))))⟩
        case measure => simp [intOf]; omega
    · have HI : Hid (mkd G.trs x.name mk = false) := by
        show _ = _
        unfold mkd
        rw [firstB_none (mkAt G.trs x.name mk) G.trs.length (fun j hj => HJ.out j (by omega))]; rfl
      go_wp2_with fail
      go_ret
      exact ⟨ret_bH HI.out.symm, hfr⟩

def rcB (st : List StP) (act : List Bool) (all some' : Bool) (s : Nat) : List Bool := (List.range 26).map fun i => decide (s < i) && decide (i < endAt st s) && mem act i && (all || (some' && (outAt st i == (s : Int))))
theorem rcB_mem (st : List StP) (act : List Bool) (all some' : Bool) (s i : Nat) (h : i < 26) : mem (rcB st act all some' s) i = (decide (s < i) && decide (i < endAt st s) && mem act i && (all || (some' && (outAt st i == (s : Int))))) := by
 conv => lhs; unfold mem
 simp [rcB, h]
theorem nmK_low (st : List StP) (l : List Bool) : ∀ k, (∀ i, i < k → mem l i = false) → nmK st l k = []
 | 0, _ => rfl
 | k + 1, h => by rw [nmK, if_neg (by rw [h k (by omega)]; decide), nmK_low st l k (fun i hi => h i (by omega))]
theorem nmK_high (st : List StP) (l : List Bool) (j : Nat) : ∀ k, j ≤ k → (∀ i, j ≤ i → i < k → mem l i = false) → nmK st l k = nmK st l j
  | 0, h, _ => by have : j = 0 := by omega
                  rw [this]
  | k + 1, h, hf => by
    by_cases e : j = k + 1
    · rw [e]
    · rw [nmK, if_neg (by rw [hf k (by omega) (by omega)]; decide)]
      exact nmK_high st l j k (by omega) (fun i a b => hf i a (by omega))
theorem ret_bs {l m : List UInt8} {c : UInt8} (h : l = m ++ [c]) : Value.string ((⟨m.toArray⟩ : ByteArray) ++ ⟨#[c]⟩) = .string ⟨l.toArray⟩ := by
 congr 1
 apply ByteArray.ext
 rw [ByteArray.data_append]
 apply Array.toList_inj.1
 rw [h]; simp

set_option maxRecDepth 100000 in
set_option maxHeartbeats 2000000 in
theorem drecall_any (w : World) (M : GM) (st : List StP) (act : List Bool) (me : List ByteArray) (o : ByteArray) (hg : Gm w M (onOf M.c.sts.length act) me o) (hk : Lk M.c.sts st) (htr : Tr st) (s : Nat) (x : StR) (hx : M.c.sts[s]? = some x) :
  Calls Tryz.prog 57 #[.pointer (some ⟨M.gb, 0, none⟩), .int .i64 s] w fun e w' => e = .returned (.string ⟨(nmK st (rcB st act (mkd M.c.trs x.name ⟨#[42]⟩) (mkd M.c.trs x.name ⟨#[126]⟩) s) st.length).toArray⟩) ∧ Fr (fun _ => False) w w' := by
 have HK : Hid _ := hk
 have HL : Hid (M.c.sts.length = st.length) := hk.len
 have hl3 := hg.ct.l3
 have hsl := (List.getElem?_eq_some_iff.1 hx).1
 have HX : Hid _ := hx
 obtain ⟨E1, -, -⟩ := hk.en s x hx
 have hen := htr.end_gt (k := s) (by rw [← hk.len]; exact hsl)
 rw [← E1] at hen
 have hen2 : x.end_ ≤ M.c.sts.length := by rw [hk.len]; exact hen.2
 have hen1 := hen.1
 clear hx hen hk
 go_enter Tryz.func57, Tryz.ntmps57
 go_wp2_with fail
 refine (dmarked_any w M.c M.gb hg.ct hg.cp s x HX.out ⟨#[42]⟩).mono ?_
 rintro e w1 ⟨rfl, hf1⟩
 have hg1 := hg.fr0 hf1
 go_wp2_with fail
 refine (dmarked_any w1 M.c M.gb hg1.ct hg1.cp s x HX.out ⟨#[126]⟩).mono ?_
 rintro e w2 ⟨rfl, hf2⟩
 have hf12 := hf1.thenr hf2 (fun _ _ h => h)
 clear hg1 hf1 hf2
 obtain ⟨A, hAe⟩ : ∃ A, mkd M.c.trs x.name ⟨#[42]⟩ = A := ⟨_, rfl⟩
 obtain ⟨B, hBe⟩ : ∃ B, mkd M.c.trs x.name ⟨#[126]⟩ = B := ⟨_, rfl⟩
 rw [hAe, hBe]
 have HAe : Hid _ := hAe
 have HBe : Hid _ := hBe
 clear hAe hBe
 have HR : Hid (∀ i, i < 26 → mem (rcB st act A B s) i = (decide (s < i) && decide (i < endAt st s) && mem act i && (A || (B && (outAt st i == (s : Int)))))) := fun i hi => rcB_mem st act A B s i hi
 have HLOW : Hid (nmK st (rcB st act A B s) (s + 1) = []) := nmK_low _ _ _ (fun i hi => by
  rw [rcB_mem _ _ _ _ _ _ (by omega)]
  have : ¬ s < i := by omega
  simp [this])
 have HHIGH : Hid (nmK st (rcB st act A B s) st.length = nmK st (rcB st act A B s) x.end_) := nmK_high _ _ _ _ (by rw [← HL.out]; exact hen2) (fun i h1 h2 => by
  rw [rcB_mem _ _ _ _ _ _ (by have := HL.out; omega), ← E1]
  have : ¬ i < x.end_ := by omega
  simp [this])
 rw [← E1] at HR
 have HQ : Hid (rcB st act (mkd M.c.trs x.name ⟨#[42]⟩) (mkd M.c.trs x.name ⟨#[126]⟩) s = rcB st act A B s) := by show _ = _; rw [HAe.out, HBe.out]
 clear HAe HBe
 generalize rcB st act A B s = R at *
 go_wp2_with fail
 go_loopw [7, 8] (fun vm vk wr => ∃ k : Nat, s + 1 ≤ k ∧ k ≤ x.end_ ∧ vk = .int .i64 k ∧ vm = .string ⟨(nmK st R k).toArray⟩ ∧ Fr (fun _ => False) w wr) (fun _ vk _ => x.end_ - (intOf vk).toNat)
 case atStart => exact ⟨s + 1, Nat.le_refl _, by omega, by go_num, by rw [HLOW.out], hf12⟩
 case round =>
  obtain ⟨k, hk1, hk2, rfl, rfl, hfr⟩ := hrel
  have hgr := hg.fr0 hfr
  have c4 := hgr.c4
  obtain ⟨c0, c1⟩ := hgr.cp
  obtain ⟨-, -, -, -, -, x5, -, -⟩ := st8 hgr.ct.r3 HX.out
  have hsz := nmK_len st R k
  have hsz2 : (⟨(nmK st R k).toArray⟩ : ByteArray).size = (nmK st R k).length := by show (nmK st R k).toArray.size = _; simp
  by_cases hlt : (k : Int) < x.end_
  ·have hlt' : k < M.c.sts.length := by omega
   have fk := hgr.on' hlt'
   rw [onOf_mem _ _ _ hlt'] at fk
   obtain ⟨y, hy⟩ : ∃ y, M.c.sts[k]? = some y := ⟨_, List.getElem?_eq_getElem hlt'⟩
   obtain ⟨y0, -, y2, -, -, -, -, -⟩ := st8 hgr.ct.r3 hy
   have hpy : y.parent = outAt st k := by have := HK.out.pa k; rw [parAt, hy] at this; exact this
   have HNM : Hid (y.name = nameAt st k) := (HK.out.en k y hy).2.2
   have HR : Hid _ := HR.out k (by omega)
   rw [show decide (s < k) = true by simp; omega, show decide (k < x.end_) = true by simp; omega, ← hpy] at HR
   clear hy hpy
   cases ha : mem act k with
   | false =>
    rw [ha] at fk
    have HB : Hid (nmK st R (k + 1) = nmK st R k) := by show _ = _; rw [nmK, if_neg (by rw [HR.out]; rw [ha]; simp)]
    clear ha
    generalize nmK st R k = E at *
    go_wp2_with fail
    go_roundw
    case rel => exact ⟨k + 1, by omega, by omega, by go_num, by rw [HB.out], hfr⟩
    case measure => simp [intOf]; omega
   | true =>
    rw [ha] at fk
    cases hA : A with
    | true =>
     subst hA
     have HB : Hid (nmK st R (k + 1) = nmK st R k ++ [y.name]) := by show _ = _; rw [nmK, if_pos (by rw [HR.out]; rw [ha]; simp), ← HNM.out]
     clear ha
     generalize nmK st R k = E at *
     go_wp2_with fail
     go_roundw
     case rel => exact ⟨k + 1, by omega, by omega, by go_num, ret_bs HB.out, hfr.allocr _⟩
     case measure => simp [intOf]; omega
    | false =>
     subst hA
     cases hB : B with
     | false =>
      subst hB
      have HB : Hid (nmK st R (k + 1) = nmK st R k) := by show _ = _; rw [nmK, if_neg (by rw [HR.out]; rw [ha]; simp)]
      clear ha
      generalize nmK st R k = E at *
      go_wp2_with fail
      go_roundw
      case rel => exact ⟨k + 1, by omega, by omega, by go_num, by rw [HB.out], hfr⟩
      case measure => simp [intOf]; omega
     | true =>
      subst hB
      by_cases hp : y.parent = (s : Int)
      ·have pb : (y.parent == (s : Int)) = true := by rw [beq_iff_eq]; exact hp
       have HB : Hid (nmK st R (k + 1) = nmK st R k ++ [y.name]) := by show _ = _; rw [nmK, if_pos (by rw [HR.out]; rw [ha, pb]; simp), ← HNM.out]
       clear ha hp
       generalize nmK st R k = E at *
       go_wp2_with fail
       go_roundw
       case rel => exact ⟨k + 1, by omega, by omega, by go_num, ret_bs HB.out, hfr.allocr _⟩
       case measure => simp [intOf]; omega
      ·have pb : (y.parent == (s : Int)) = false := by rw [beq_eq_false_iff_ne]; exact hp
       have HB : Hid (nmK st R (k + 1) = nmK st R k) := by show _ = _; rw [nmK, if_neg (by rw [HR.out]; rw [ha, pb]; simp)]
       clear ha hp
       generalize nmK st R k = E at *
       go_wp2_with fail
       go_roundw
       case rel => exact ⟨k + 1, by omega, by omega, by go_num, by rw [HB.out], hfr⟩
       case measure => simp [intOf]; omega
  ·have hke : k = x.end_ := by omega
   have HE : Hid ((⟨(nmK st R st.length).toArray⟩ : ByteArray) = ⟨(nmK st R k).toArray⟩) := by show _ = _; rw [HHIGH.out, hke]
   clear hke
   go_wp2_with fail
   go_ret
   exact ⟨ret_str (by rw [HQ.out]; exact HE.out.symm), hfr⟩
end Go.Proofs.YtmolmbeeoecnfaaGreatDoor
