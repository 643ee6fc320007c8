/- Own work: TR5, TR6, TD5, TD6. -/
import Derived.Test.YtmolmbeeoecnfaaGreatDoorF32
import Derived.Test.YtmolmbeeoecnfaaGreatDoorF01
import Derived.Test.YtmolmbeeoecnfaaGreatDoorF13
/- Own work: walks of the program's table: leadsToRows, stoodBefore, isRight. -/
namespace Go.Proofs.YtmolmbeeoecnfaaGreatDoor
open Go.RowKit Go.BigFrame
set_option linter.unusedVariables false
set_option linter.unusedSimpArgs false

def ldB (n : Nat) (cs : List Cl) (k : Nat) : Bool := match cs[k]? with | some c => decide (n ≤ min c.dst 99) | none => false
def ldQ (n : Nat) (cs : List Cl) : Bool := (firstB (ldB n cs) cs.length).isNone
theorem bytes_ne {a b : ByteArray} (h : a ≠ b) : (a.toList == b.toList) = false := by
 rw [beq_eq_false_iff_ne, ByteArray.toList_eq, ByteArray.toList_eq]; intro e; exact h (ByteArray.ext (Array.toList_inj.1 e))
def stB (R : List Rw) (t : ByteArray) (k : Nat) : Bool := match R[k]? with | some x => decide (x.text = t) | none => false
def stQ (R : List Rw) (t : ByteArray) (n : Nat) : Bool := (firstB (stB R t) n).isSome
def rgQ (R : List Rw) (i : Nat) (r : Rw) : Bool :=
 if smQ r.same ≠ -1 then decide (smQ r.same < i) && (match R[(smQ r.same).toNat]? with | some x => decide (smQ x.same = -1) | none => false)
 else ldQ R.length r.cells && !stQ R r.text i


def rgB (R : List Rw) (i : Nat) : Bool := match R[i]? with | some r => !rgQ R i r | none => false
def rAt (R : List Rw) (i : Nat) : Nat := match R[i]? with | some r => r.at_ | none => 0
def ldE (s : ByteArray) : Int × Int :=
 if 600000 < s.size then (1, 0)
 else if (formP s).1 = false then (8, (formP s).2.1)
 else if 99 < (formP s).2.2.rows.length then (8, rAt (formP s).2.2.rows 99)
 else match firstB (rgB (formP s).2.2.rows) (formP s).2.2.rows.length with
  | some i => (8, rAt (formP s).2.2.rows i)
  | none => (0, 0)

theorem form_len (s : ByteArray) : (formP s).2.2.rows.length ≤ s.size := by
 unfold formP
 simp only
 split
 ·exact Nat.zero_le _
 ·rename_i h1
  have hb1 : tev s ≤ s.size := (evE_bd s 0 0 (Nat.zero_le _)).2
  have hin := sg_in s 59 (tev s) (by decide) (by simpa using h1)
  have hb2 : tbg s ≤ s.size := dend_le s _ hin
  split
  ·exact Nat.zero_le _
  ·rename_i h2
   have hin2 := sg_in s 59 (tbg s) (by decide) (by simpa using h2)
   exact rwF_len s _ _ _ _ hin2 (Nat.zero_le _)
theorem form_wd (s : ByteArray) : ∀ r ∈ (formP s).2.2.rows, (0 ≤ r.same ∧ r.cells = []) ∨ (r.same = -1 ∧ r.cells.length = (formP s).2.2.events.size) := by
 unfold formP
 simp only
 have hb1 : tev s ≤ s.size := (evE_bd s 0 0 (Nat.zero_le _)).2
 split
 ·intro r hr; simp at hr
 ·rename_i h1
  have hin := sg_in s 59 (tev s) (by decide) (by simpa using h1)
  have hb2 : tbg s ≤ s.size := dend_le s _ hin
  split
  ·intro r hr; simp at hr
  ·rename_i h2
   have hin2 := sg_in s 59 (tbg s) (by decide) (by simpa using h2)
   have h3 := rwF_wd s (tev s) (s.size + 1 - (tbg s + 1)) (tbg s + 1) [] hin2 (fun r hr => by simp at hr)
   simp only
   rw [cut_size s 0 _ (Nat.zero_le _) hb1]
   exact h3
theorem form_ev (s : ByteArray) : (formP s).2.2.events.size ≤ s.size := by
 unfold formP
 simp only
 have hb1 : tev s ≤ s.size := (evE_bd s 0 0 (Nat.zero_le _)).2
 split
 ·exact Nat.zero_le _
 ·split
  ·exact Nat.zero_le _
  ·simp only; rw [cut_size s 0 _ (Nat.zero_le _) hb1]; omega


def ldDB (n : Nat) (cs : List Cl) (k : Nat) : Bool := match cs[k]? with | some c => decide (n ≤ c.dst) | none => false
def ldD (n : Nat) (cs : List Cl) : Bool := (firstB (ldDB n cs) cs.length).isNone
def stDB (R : List Rw) (t : ByteArray) (k : Nat) : Bool := match R[k]? with | some x => decide (x.same < 0) && decide (dText x = t) | none => false
def stD (R : List Rw) (t : ByteArray) (n : Nat) : Bool := (firstB (stDB R t) n).isSome
def sdQ (R : List Rw) (i : Nat) (r : Rw) : Bool :=
 if 0 ≤ r.same then decide (r.same < i) && (match R[r.same.toNat]? with | some x => decide (x.same < 0) | none => false)
 else ldD R.length r.cells && !stD R (dText r) i

set_option maxRecDepth 100000 in
set_option maxHeartbeats 1000000 in
theorem sound_any (w : World) (tb : Nat) (ev bg : ByteArray) (v : Value) (th : List RwH) (hT : Blk w tb #[.string ev, .string bg, v] 65) (hV : DTbV w v th) (hn : v.ownBlock ≠ some tb) (i : Nat) (y : RwH) (hy : th[i]? = some y) (hl : th.length ≤ 1000000) (hc : y.q.cells.length ≤ 1000000) :
    Calls Tryz.prog 39 #[.pointer (some ⟨tb, 0, none⟩), .int .i64 i] w fun e w' => e = .returned (.bool (sdQ (th.map RwH.q) i y.q)) ∧ Fr (fun _ => False) w w' := by
  have hil := (List.getElem?_eq_some_iff.1 hy).1
  obtain ⟨gg, cc, hv, hcc⟩ := row_form hV.r (by omega)
  subst hv
  have hil' : (i : Int) < th.length := by omega
  have key : ∀ k (x : RwH), th[k]? = some x → ∀ o v, o < 4 → x.dcells[o]? = some v → w.cell? ⟨gg, k * 4 + o, none⟩ = some v := fun k x hx o v ho hv =>
    (row_cell hV.r (k * 4 + o) v (by rw [flat_get RwH.dcells 4 RwH.dlen th k o x hx ho]; exact hv)).1
  have x0 := key i y hy 0 _ (by omega) rfl
  have x1 := key i y hy 1 _ (by omega) rfl
  have x2 := key i y hy 2 _ (by omega) rfl
  have x3 := key i y hy 3 _ (by omega) rfl
  have HK : Hid (∀ k (x : RwH), th[k]? = some x → ∀ o v, o < 4 → x.dcells[o]? = some v → w.cell? ⟨gg, k * 4 + o, none⟩ = some v) := key
  rw [Nat.add_zero] at x0
  have hgl : gg < w.heap.size := (hV.r.lt gg rfl).2
  have htl := Blk.lt hT
  have HT : Hid (Blk w tb #[.string ev, .string bg, .slice (some ⟨gg, 0, none⟩) th.length cc] 65) := hT
  have HV : Hid (DTbV w (.slice (some ⟨gg, 0, none⟩) th.length cc) th) := hV
  have HY : Hid (th[i]? = some y) := hy
  obtain ⟨ca, cc2, hcv⟩ := row_len (hV.rc y (List.mem_of_getElem? hy))
  have HCV : Hid (y.cv = .slice ca y.q.cells.length cc2) := hcv
  have t2 : w.cell? ⟨tb, 2, none⟩ = some (.slice (some ⟨gg, 0, none⟩) th.length cc) := by rw [Blk.cell hT]; rfl
  rw [hcv] at x2
  clear hV hy key hcv hT
  by_cases hsm : 0 ≤ y.q.same
  · obtain ⟨m, hm⟩ : ∃ m : Nat, y.q.same = m := ⟨y.q.same.toNat, by omega⟩
    have HR : Hid (sdQ (th.map RwH.q) i y.q = (decide (m < i) && (match th[m]? with | some x => decide (x.q.same < 0) | none => false))) := by
      show _ = _
      rw [sdQ, if_pos hsm, hm]
      simp only [Int.toNat_natCast, List.getElem?_map]
      cases th[m]? <;> simp
    rw [hm] at x1
    clear hsm hm
    by_cases hmi : (m : Int) < i
    · obtain ⟨x, hx⟩ : ∃ x, th[m]? = some x := ⟨_, List.getElem?_eq_getElem (by omega)⟩
      have u1 := HK.out m x hx 1 _ (by omega) rfl
      have hml : (m : Int) < th.length := by omega
      have HR2 : Hid (sdQ (th.map RwH.q) i y.q = decide (x.q.same < 0)) := by
        show _ = _
        rw [HR.out, hx, decide_eq_true (by omega)]
        simp only [Bool.true_and]
      clear hx HR
      go_enter Tryz.func39, Tryz.ntmps39
      go_wp2_with fail
      go_big_quiet (fail)
      go_wp2_with fail
      go_ret
      exact ⟨ret_b HR2.out.symm, by (repeat (first | exact Fr.refl _ _ | assumption | refine Fr.drewNr ?_ _ | refine Fr.drewr ?_ | refine Fr.allocr ?_ _ | refine Fr.setCellr ?_ _ _ (by first | exact Or.inl rfl | (right; simp; done) | (right; simp; omega))))⟩
    · have hmi' : decide (m < i) = false := by simp; omega
      have HR2 : Hid (sdQ (th.map RwH.q) i y.q = false) := by
        show _ = _
        rw [HR.out, decide_eq_false (by omega)]; rfl
      go_enter Tryz.func39, Tryz.ntmps39
      go_wp2_with fail
      go_big_quiet (fail)
      go_wp2_with fail
      go_ret
      exact ⟨ret_b HR2.out.symm, by (repeat (first | exact Fr.refl _ _ | assumption | refine Fr.drewNr ?_ _ | refine Fr.drewr ?_ | refine Fr.allocr ?_ _ | refine Fr.setCellr ?_ _ _ (by first | exact Or.inl rfl | (right; simp; done) | (right; simp; omega))))⟩
  · have hsm' : decide (0 ≤ y.q.same) = false := by simpa using hsm
    have HR : Hid (sdQ (th.map RwH.q) i y.q = (ldD th.length y.q.cells && !stD (th.map RwH.q) (dText y.q) i)) := by show _ = _; rw [sdQ, if_neg hsm]; simp
    go_enter Tryz.func39, Tryz.ntmps39
    go_wp2_with fail
    have hR0 := Blk.new w #[.int .i64 y.q.at_, .int .i64 y.q.same, .slice ca y.q.cells.length cc2, .string (dText y.q)] 108
    have hfr0 : Fr (fun _ => False) w (w.alloc (.cells #[.int .i64 y.q.at_, .int .i64 y.q.same, .slice ca y.q.cells.length cc2, .string (dText y.q)] 108)) := (Fr.refl _ _).allocr _
    generalize w.alloc (.cells #[.int .i64 y.q.at_, .int .i64 y.q.same, .slice ca y.q.cells.length cc2, .string (dText y.q)] 108) = W at hR0 hfr0 ⊢
    clear x0 x1 x2 x3 t2
    go_loopw [6] (fun vk wr => ∃ k : Nat, k ≤ y.q.cells.length ∧ vk = .int .i64 k ∧ Hid (∀ j, j < k → ldDB th.length y.q.cells j = false) ∧ Fr (fun _ => False) w wr ∧ Blk wr w.heap.size #[.int .i64 y.q.at_, .int .i64 y.q.same, .slice ca y.q.cells.length cc2, .string (dText y.q)] 108) (fun vk _ => y.q.cells.length - (intOf vk).toNat)
    case atStart => exact ⟨0, Nat.zero_le _, rfl, fun j hj => (by omega), hfr0, hR0⟩
    case round =>
      clear hR0 hfr0
      obtain ⟨k, hk, rfl, HJ, hfr, hR⟩ := hrel
      have r2 : wr.cell? ⟨w.heap.size, 2, none⟩ = some (.slice ca y.q.cells.length cc2) := by rw [Blk.cell hR]; rfl
      have hTw := Blk.fr HT.out hfr (fun h => h)
      have t2 : wr.cell? ⟨tb, 2, none⟩ = some (.slice (some ⟨gg, 0, none⟩) th.length cc) := by rw [Blk.cell hTw]; rfl
      clear hTw
      by_cases hlt : (k : Int) < y.q.cells.length
      · have hrc := (HV.out.fr hfr (fun _ _ h => h)).rc y (List.mem_of_getElem? HY.out)
        obtain ⟨ge, ce, hv3, -⟩ := row_form hrc (by omega)
        have hvv := HCV.out.symm.trans hv3
        injection hvv with q1 q2 q3
        subst q1
        subst q3
        clear q2
        rw [HCV.out] at hrc
        obtain ⟨x, hx⟩ : ∃ x, y.q.cells[k]? = some x := ⟨_, List.getElem?_eq_getElem (by omega)⟩
        have e0 := (row_cell hrc (k * 2 + 0) _ (by rw [flat_get clD 2 clD_len y.q.cells k 0 x hx (by omega)]; rfl)).1
        rw [Nat.add_zero] at e0
        have HF : Hid (ldDB th.length y.q.cells k = decide (th.length ≤ x.dst)) := by show _ = _; simp [ldDB, hx]
        clear hrc hx hv3
        by_cases hge : (th.length : Int) ≤ x.dst
        · have HG : Hid (sdQ (th.map RwH.q) i y.q = false) := by
            show _ = _
            rw [HR.out, ldD, firstB_some (ldDB th.length y.q.cells) k (by rw [HF.out]; simp; omega) HJ.out _ (by omega)]; rfl
          go_wp2_with fail
          go_big_quiet (fail)
          go_wp2_with fail
          go_ret
          exact ⟨ret_b HG.out.symm, by (repeat (first | exact Fr.refl _ _ | assumption | refine Fr.drewNr ?_ _ | refine Fr.drewr ?_ | refine Fr.allocr ?_ _ | refine Fr.setCellr ?_ _ _ (by first | exact Or.inl rfl | (right; simp; done) | (right; simp; omega))))⟩
        · have HG : Hid (ldDB th.length y.q.cells k = false) := by show _ = _; rw [HF.out]; simp; omega
          have hge' : decide (th.length ≤ x.dst) = false := by simp; omega
          go_wp2_with fail
          go_big_quiet (fail)
          go_wp2_with fail
          go_roundw
          case rel => exact ⟨k + 1, by omega, by go_num, below_step HJ.out HG.out, by (repeat (first | exact Fr.refl _ _ | assumption | refine Fr.drewNr ?_ _ | refine Fr.drewr ?_ | refine Fr.allocr ?_ _ | refine Fr.setCellr ?_ _ _ (by first | exact Or.inl rfl | (right; simp; done) | (right; simp; omega)))), Blk.drewN hR _⟩
          case measure => simp [intOf]; omega
      · have HL : Hid (sdQ (th.map RwH.q) i y.q = !stD (th.map RwH.q) (dText y.q) i) := by
          show _ = _
          rw [HR.out, ldD, firstB_none (ldDB th.length y.q.cells) _ (fun j hj => HJ.out j (by omega))]; rfl
        have hlt' : decide (k < y.q.cells.length) = false := by simp; omega
        go_wp2_with fail
        clear r2 t2 hlt hlt' HJ
        go_loopw [7] (fun vk wr => ∃ k : Nat, k ≤ i ∧ vk = .int .i64 k ∧ Hid (∀ j, j < k → stDB (th.map RwH.q) (dText y.q) j = false) ∧ Fr (fun _ => False) w wr ∧ Blk wr w.heap.size #[.int .i64 y.q.at_, .int .i64 y.q.same, .slice ca y.q.cells.length cc2, .string (dText y.q)] 108) (fun vk _ => i - (intOf vk).toNat)
        case atStart => exact ⟨0, Nat.zero_le _, rfl, fun j hj => (by omega), hfr, hR⟩
        case round =>
          clear hfr hR
          obtain ⟨m, hm, rfl, HJ, hfr, hR⟩ := hrel
          have r3 : wr.cell? ⟨w.heap.size, 3, none⟩ = some (.string (dText y.q)) := by rw [Blk.cell hR]; rfl
          have hTw := Blk.fr HT.out hfr (fun h => h)
          have t2 : wr.cell? ⟨tb, 2, none⟩ = some (.slice (some ⟨gg, 0, none⟩) th.length cc) := by rw [Blk.cell hTw]; rfl
          clear hTw
          by_cases hlt : (m : Int) < i
          · obtain ⟨x, hx⟩ : ∃ x, th[m]? = some x := ⟨_, List.getElem?_eq_getElem (by omega)⟩
            have hVw := HV.out.fr hfr (fun _ _ h => h)
            have e1 := (row_cell hVw.r (m * 4 + 1) _ (by rw [flat_get RwH.dcells 4 RwH.dlen th m 1 x hx (by omega)]; rfl)).1
            have e3 := (row_cell hVw.r (m * 4 + 3) _ (by rw [flat_get RwH.dcells 4 RwH.dlen th m 3 x hx (by omega)]; rfl)).1
            have HF : Hid (stDB (th.map RwH.q) (dText y.q) m = (decide (x.q.same < 0) && decide (dText x.q = dText y.q))) := by show _ = _; simp [stDB, hx]
            have hml : (m : Int) < th.length := by omega
            clear hVw hx
            by_cases hs0 : x.q.same < 0
            · by_cases he : dText x.q = dText y.q
              · have HG : Hid (sdQ (th.map RwH.q) i y.q = false) := by
                  show _ = _
                  rw [HL.out, stD, firstB_some (stDB (th.map RwH.q) (dText y.q)) m (by rw [HF.out]; simp [hs0, he]) HJ.out _ (by omega)]; rfl
                rw [he] at e3
                clear he
                go_wp2_with fail
                go_big_quiet (fail)
                go_wp2_with fail
                go_ret
                exact ⟨ret_b HG.out.symm, by (repeat (first | exact Fr.refl _ _ | assumption | refine Fr.drewNr ?_ _ | refine Fr.drewr ?_ | refine Fr.allocr ?_ _ | refine Fr.setCellr ?_ _ _ (by first | exact Or.inl rfl | (right; simp; done) | (right; simp; omega))))⟩
              · have HG : Hid (stDB (th.map RwH.q) (dText y.q) m = false) := by show _ = _; rw [HF.out]; simp [he]
                have hne := bytes_ne he
                clear he
                go_wp2_with fail
                go_big_quiet (fail)
                go_wp2_with fail
                go_roundw
                case rel => exact ⟨m + 1, by omega, by go_num, below_step HJ.out HG.out, by (repeat (first | exact Fr.refl _ _ | assumption | refine Fr.drewNr ?_ _ | refine Fr.drewr ?_ | refine Fr.allocr ?_ _ | refine Fr.setCellr ?_ _ _ (by first | exact Or.inl rfl | (right; simp; done) | (right; simp; omega)))), Blk.drewN hR _⟩
                case measure => simp [intOf]; omega
            · have HG : Hid (stDB (th.map RwH.q) (dText y.q) m = false) := by show _ = _; rw [HF.out]; simp [hs0]
              have hs0' : decide (x.q.same < 0) = false := by simpa using hs0
              go_wp2_with fail
              go_big_quiet (fail)
              go_wp2_with fail
              go_roundw
              case rel => exact ⟨m + 1, by omega, by go_num, below_step HJ.out HG.out, by (repeat (first | exact Fr.refl _ _ | assumption | refine Fr.drewNr ?_ _ | refine Fr.drewr ?_ | refine Fr.allocr ?_ _ | refine Fr.setCellr ?_ _ _ (by first | exact Or.inl rfl | (right; simp; done) | (right; simp; omega)))), Blk.drewN hR _⟩
              case measure => simp [intOf]; omega
          · have HG : Hid (sdQ (th.map RwH.q) i y.q = true) := by
              show _ = _
              rw [HL.out, stD, firstB_none (stDB (th.map RwH.q) (dText y.q)) _ (fun j hj => HJ.out j (by omega))]; rfl
            go_wp2_with fail
            go_ret
            exact ⟨ret_b HG.out.symm, hfr⟩

def sdB (R : List Rw) (i : Nat) : Bool := match R[i]? with | some r => !sdQ R i r | none => false
def rdT (s : ByteArray) : Int × Int :=
 if 600000 < s.size then (1, 0)
 else if (formP s).1 = false then (8, (formP s).2.1)
 else if 99 < (formP s).2.2.rows.length then (8, rAt (formP s).2.2.rows 99)
 else match firstB (sdB (formP s).2.2.rows) (formP s).2.2.rows.length with
  | some i => (8, rAt (formP s).2.2.rows i)
  | none => (0, 0)

def DlPost (s : ByteArray) (w : World) (e : Ending) (w' : World) : Prop :=
 ∃ ev bg va n vc, e = .returned (.tuple #[.agg #[.string ev, .string bg, .slice va n vc], .int .i64 (rdT s).1, .int .i64 (rdT s).2]) ∧ Fr (fun _ => False) w w' ∧
  ((rdT s).1 = 0 → ev = (formP s).2.2.events ∧ bg = (formP s).2.2.begin_ ∧ s.size ≤ 600000 ∧ (formP s).1 = true ∧ (formP s).2.2.rows.length ≤ 99 ∧ (∀ i, sdB (formP s).2.2.rows i = false) ∧
   ∃ th, DTbV w' (.slice va n vc) th ∧ n = th.length ∧ th.map RwH.q = (formP s).2.2.rows ∧ ∀ k, OwnT (.slice va n vc) th k → w.heap.size ≤ k)

set_option maxRecDepth 100000 in
set_option maxHeartbeats 1000000 in
theorem readTableD_any (w : World) (s : ByteArray) (hm : s.size ≤ maxLen) : Calls Tryz.prog 22 #[.string s] w (DlPost s w) := by
  unfold maxLen at hm
  by_cases hbig : (600000 : Int) < s.size
  · have HE : Hid (rdT s = (1, 0)) := by show _ = _; rw [rdT, if_pos (by omega)]
    go_enter Tryz.func22, Tryz.ntmps22
    go_wp2_with fail
    refine bodyPost_ret (v := .tuple #[.agg #[.string ⟨#[]⟩, .string ⟨#[]⟩, .slice none 0 0], .int .i64 1, .int .i64 0]) (by simp [results, Tryz.results22, go_sem]) rfl ⟨⟨#[]⟩, ⟨#[]⟩, none, 0, 0, ?_, ?_, ?_⟩
    · rw [HE.out]
    · exact by (repeat (first | exact Fr.refl _ _ | assumption | refine Fr.drewNr ?_ _ | refine Fr.drewr ?_ | refine Fr.allocr ?_ _ | refine Fr.setCellr ?_ _ _ (by first | exact Or.inl rfl | (right; simp; done) | (right; simp; omega))))
    · rw [HE.out]; intro h; cases h
  · have hd : decide ((600000 : Int) < s.size) = false := by simpa using hbig
    have hs6 : s.size ≤ 600000 := by omega
    have HE0 : Hid (¬ 600000 < s.size) := by show ¬ _; omega
    go_enter Tryz.func22, Tryz.ntmps22
    go_wp2_with fail
    have hQ := Blk.new w #[.string ⟨#[]⟩, .string ⟨#[]⟩, .slice none 0 0] 65
    have hfa : Fr (fun _ => False) w (w.alloc (.cells #[.string ⟨#[]⟩, .string ⟨#[]⟩, .slice none 0 0] 65)) := by (repeat (first | exact Fr.refl _ _ | assumption | refine Fr.drewNr ?_ _ | refine Fr.drewr ?_ | refine Fr.allocr ?_ _ | refine Fr.setCellr ?_ _ _ (by first | exact Or.inl rfl | (right; simp; done) | (right; simp; omega))))
    have hsz : (w.alloc (.cells #[.string ⟨#[]⟩, .string ⟨#[]⟩, .slice none 0 0] 65)).heap.size = w.heap.size + 1 := by simp
    generalize (w.alloc (.cells #[.string ⟨#[]⟩, .string ⟨#[]⟩, .slice none 0 0] 65)) = W at hQ hfa hsz ⊢
    refine (form_any W s (by omega)).mono ?_
    rintro e w1 ⟨hf1, ev, bg, va, n, vc, rfl, hyes⟩
    have hQ1 := Blk.fr hQ hf1 (fun h => h)
    have hfr1 := hfa.thenr hf1 (fun i hi h => h)
    have hQl := Blk.lt hQ1
    clear hQ hfa hf1
    have q0 : w1.cell? ⟨w.heap.size, 0, none⟩ = some (.string ⟨#[]⟩) := by rw [Blk.cell hQ1]; rfl
    have q1 : w1.cell? ⟨w.heap.size, 1, none⟩ = some (.string ⟨#[]⟩) := by rw [Blk.cell hQ1]; rfl
    have q2 : w1.cell? ⟨w.heap.size, 2, none⟩ = some (.slice none 0 0) := by rw [Blk.cell hQ1]; rfl
    have y0 := Blk.frozen hQ1 0
    have y1 := Blk.frozen hQ1 1
    have y2 := Blk.frozen hQ1 2
    by_cases hK : (formP s).1 = false
    · have HE : Hid (rdT s = (8, ((formP s).2.1 : Int))) := by show _ = _; rw [rdT, if_neg HE0.out, if_pos hK]
      rw [if_neg (by rw [hK]; simp)]
      clear hK hyes
      generalize (formP s).2.1 = pl at *
      go_wp2_with fail
      refine bodyPost_ret (v := .tuple #[.agg #[.string ⟨#[]⟩, .string ⟨#[]⟩, .slice none 0 0], .int .i64 8, .int .i64 pl]) (by simp [results, Tryz.results22, go_sem, hQl, q0, q1, q2]) rfl ⟨⟨#[]⟩, ⟨#[]⟩, none, 0, 0, ?_, ?_, ?_⟩
      · rw [HE.out]
      · exact (fr3 hfr1 _ (Or.inr (Nat.le_refl _)) _ _ _).allocr _
      · rw [HE.out]; intro h; cases h
    · have hK' : (formP s).1 = true := by simpa using hK
      obtain ⟨rfl, rfl, th, hV, rfl, hTH, hlo⟩ := hyes hK'
      rw [if_pos hK']
      have HK : Hid (¬ (formP s).1 = false) := hK
      have HK1 : Hid ((formP s).1 = true) := hK'
      have HFL : Hid ((formP s).2.2.rows.length ≤ s.size) := form_len s
      have HFW : Hid (∀ r ∈ (formP s).2.2.rows, (0 ≤ r.same ∧ r.cells = []) ∨ (r.same = -1 ∧ r.cells.length = (formP s).2.2.events.size)) := form_wd s
      have HFE : Hid ((formP s).2.2.events.size ≤ s.size) := form_ev s
      clear hK hK' hyes q0 q1 q2 y0 y1 y2
      generalize hR : (formP s).2.2.rows = R at *
      have HRr : Hid ((formP s).2.2.rows = R) := hR
      generalize hEv : (formP s).2.2.events = ev at *
      generalize hBg : (formP s).2.2.begin_ = bg at *
      have hTH2 : Hid (th.map RwH.q = R) := hTH
      have HRL : Hid (R.length = th.length) := by show _ = _; rw [← hTH]; simp
      have hl1 : th.length ≤ 1000000 := by have := HRL.out; have := HFL.out; omega
      have HT : Hid (Blk (w1.alloc (.cells #[.string ev, .string bg, .slice va th.length vc] 65)) w1.heap.size #[.string ev, .string bg, .slice va th.length vc] 65) := Blk.new w1 #[.string ev, .string bg, .slice va th.length vc] 65
      have HQ : Hid (Blk (w1.alloc (.cells #[.string ev, .string bg, .slice va th.length vc] 65)) w.heap.size #[.string ⟨#[]⟩, .string ⟨#[]⟩, .slice none 0 0] 65) := Blk.alloc hQ1 (.cells #[.string ev, .string bg, .slice va th.length vc] 65)
      have HFR : Hid (Fr (fun _ => False) w (w1.alloc (.cells #[.string ev, .string bg, .slice va th.length vc] 65))) := hfr1.allocr (.cells #[.string ev, .string bg, .slice va th.length vc] 65)
      have HV : Hid (DTbV (w1.alloc (.cells #[.string ev, .string bg, .slice va th.length vc] 65)) (.slice va th.length vc) th) := hV.fr (Fr.alloc (fun _ => False) _ _) (fun _ _ h => h)
      have HNB : Hid ((Value.slice va th.length vc).ownBlock ≠ some w1.heap.size) := fun h => (by have := (hV.r.lt _ h).2; omega)
      have HEv : Hid ((formP s).2.2.events = ev) := hEv
      have HBg : Hid ((formP s).2.2.begin_ = bg) := hBg
      clear hTH hR hEv hBg hV hQ1 hfr1
      by_cases h99 : (99 : Int) < th.length
      · have hHV := HV.out
        obtain ⟨gg, cc, hv, hcc⟩ := row_form hHV.r (by omega)
        injection hv with v1 v2 v3
        subst v1
        subst v3
        clear v2
        obtain ⟨y, hy⟩ : ∃ y, th[99]? = some y := ⟨_, List.getElem?_eq_getElem (by omega)⟩
        have a0 := (row_cell hHV.r (99 * 4 + 0) _ (by rw [flat_get RwH.dcells 4 RwH.dlen th 99 0 y hy (by omega)]; rfl)).1
        simp only [Nat.reduceMul, Nat.add_zero] at a0
        have HE : Hid (rdT s = (8, (y.q.at_ : Int))) := by
          show _ = _
          have h1 : R[99]? = some y.q := by rw [← hTH2.out]; simp [hy]
          rw [rdT, if_neg HE0.out, if_neg HK.out, HRr.out, if_pos (by have := HRL.out; omega), rAt, h1]
        have hQ2 := HQ.out
        have hT2 := HT.out
        have hfr2 := HFR.out
        have hgg : w.heap.size + 1 ≤ gg := by have := hlo gg (Or.inl rfl); omega
        have hggn : gg ≠ w.heap.size := by omega
        clear hHV hy
        go_wp2_with fail
        generalize w1.alloc (.cells #[.string ev, .string bg, .slice (some ⟨gg, 0, none⟩) th.length vc] 65) = W2 at hQ2 hT2 hfr2 a0 ⊢
        generalize w1.heap.size = tb at hT2 hQl ⊢
        have hQl := Blk.lt hQ2
        have t2 : W2.cell? ⟨tb, 2, none⟩ = some (.slice (some ⟨gg, 0, none⟩) th.length vc) := by rw [Blk.cell hT2]; rfl
        have q0 : W2.cell? ⟨w.heap.size, 0, none⟩ = some (.string ⟨#[]⟩) := by rw [Blk.cell hQ2]; rfl
        have q1 : W2.cell? ⟨w.heap.size, 1, none⟩ = some (.string ⟨#[]⟩) := by rw [Blk.cell hQ2]; rfl
        have q2 : W2.cell? ⟨w.heap.size, 2, none⟩ = some (.slice none 0 0) := by rw [Blk.cell hQ2]; rfl
        have y0 := Blk.frozen hQ2 0
        have y1 := Blk.frozen hQ2 1
        have y2 := Blk.frozen hQ2 2
        go_region
        all_goals
          go_wp2_with fail
          refine bodyPost_ret (v := .tuple #[.agg #[.string ⟨#[]⟩, .string ⟨#[]⟩, .slice none 0 0], .int .i64 8, .int .i64 y.q.at_]) (by simp [results, Tryz.results22, go_sem, hQl, q0, q1, q2]) rfl ⟨⟨#[]⟩, ⟨#[]⟩, none, 0, 0, ?_, ?_, ?_⟩
          · rw [HE.out]
          · exact (fr3 hfr2 _ (Or.inr (Nat.le_refl _)) _ _ _).drewr
          · rw [HE.out]; intro h; cases h
      · have h99' : decide (99 < th.length) = false := by simp; omega
        go_wp2_with fail
        have hQ2 := HQ.out
        have hT2 := HT.out
        have hfr2 := HFR.out
        have hV2 := HV.out
        have hNB := HNB.out
        generalize w1.alloc (.cells #[.string ev, .string bg, .slice va th.length vc] 65) = W2 at hQ2 hT2 hfr2 hV2 ⊢
        have htb : w.heap.size < w1.heap.size := hQl
        clear HT HQ HFR HV HNB
        generalize w1.heap.size = tb at hT2 hQl htb hNB ⊢
        have HNB : Hid ((Value.slice va th.length vc).ownBlock ≠ some tb) := hNB
        clear hNB
        go_loopw [7] (fun i wr => ∃ k : Nat, k ≤ th.length ∧ i = .int .i64 k ∧ Hid (∀ j, j < k → sdB R j = false) ∧ Fr (fun _ => False) w wr ∧ Blk wr tb #[.string ev, .string bg, .slice va th.length vc] 65 ∧ Blk wr w.heap.size #[.string ⟨#[]⟩, .string ⟨#[]⟩, .slice none 0 0] 65 ∧ DTbV wr (.slice va th.length vc) th) (fun i _ => th.length - (intOf i).toNat)
        case atStart => exact ⟨0, Nat.zero_le _, rfl, fun j hj => (by omega), hfr2, hT2, hQ2, hV2⟩
        case round =>
          clear hfr2 hT2 hQ2 hV2
          obtain ⟨k, hk, rfl, HJ, hfr, hT, hQ, hV⟩ := hrel
          have t0 : wr.cell? ⟨tb, 0, none⟩ = some (.string ev) := by rw [Blk.cell hT]; rfl
          have t1 : wr.cell? ⟨tb, 1, none⟩ = some (.string bg) := by rw [Blk.cell hT]; rfl
          have t2 : wr.cell? ⟨tb, 2, none⟩ = some (.slice va th.length vc) := by rw [Blk.cell hT]; rfl
          by_cases hlt : (k : Int) < th.length
          · obtain ⟨y, hy⟩ : ∃ y, th[k]? = some y := ⟨_, List.getElem?_eq_getElem (by omega)⟩
            have hyR : R[k]? = some y.q := by rw [← hTH2.out]; simp [hy]
            have hcl : y.q.cells.length ≤ 1000000 := by
              rcases HFW.out y.q (List.mem_of_getElem? hyR) with h | h
              · rw [h.2]; simp
              · have := HFE.out; omega
            have HB : Hid (sdB R k = !sdQ R k y.q) := by show _ = _; simp [sdB, hyR]
            have HAT : Hid (rAt R k = y.q.at_) := by show _ = _; simp [rAt, hyR]
            have HYY : Hid (th[k]? = some y) := hy
            clear hy hyR
            go_wp2_with fail
            refine (sound_any wr tb ev bg _ th hT hV HNB.out k y HYY.out (by omega) hcl).mono ?_
            rintro e w2 ⟨rfl, hf2⟩
            rw [hTH2.out]
            have hfr2 := hfr.thenr hf2 (fun _ _ h => h)
            have hT2 := Blk.fr hT hf2 (fun h => h)
            have hQ2 := Blk.fr hQ hf2 (fun h => h)
            have hV2 := hV.fr hf2 (fun _ _ h => h)
            clear hfr hT hQ hV t0 t1 t2
            cases hrg : sdQ R k y.q
            · have HE : Hid (rdT s = (8, (y.q.at_ : Int))) := by
                show _ = _
                rw [rdT, if_neg HE0.out, if_neg HK.out, HRr.out, if_neg (by have := HRL.out; omega), firstB_some (sdB R) k (by rw [HB.out, hrg]; rfl) HJ.out _ (by have := HRL.out; omega)]
                simp only [HAT.out]
              obtain ⟨gg, cc, hv, hcc⟩ := row_form hV2.r (by omega)
              injection hv with v1 v2 v3
              subst v1
              subst v3
              clear v2 hrg
              have hgg : w.heap.size + 1 ≤ gg := by have := hlo gg (Or.inl rfl); omega
              have hggn : gg ≠ w.heap.size := by omega
              have hggn' : w.heap.size ≠ gg := by omega
              have a0 := (row_cell hV2.r (k * 4 + 0) _ (by rw [flat_get RwH.dcells 4 RwH.dlen th k 0 y HYY.out (by omega)]; rfl)).1
              rw [Nat.add_zero] at a0
              have t2 : w2.cell? ⟨tb, 2, none⟩ = some (.slice (some ⟨gg, 0, none⟩) th.length vc) := by rw [Blk.cell hT2]; rfl
              have hQl := Blk.lt hQ2
              have q0 : w2.cell? ⟨w.heap.size, 0, none⟩ = some (.string ⟨#[]⟩) := by rw [Blk.cell hQ2]; rfl
              have q1 : w2.cell? ⟨w.heap.size, 1, none⟩ = some (.string ⟨#[]⟩) := by rw [Blk.cell hQ2]; rfl
              have q2 : w2.cell? ⟨w.heap.size, 2, none⟩ = some (.slice none 0 0) := by rw [Blk.cell hQ2]; rfl
              have y0 := Blk.frozen hQ2 0
              have y1 := Blk.frozen hQ2 1
              have y2 := Blk.frozen hQ2 2
              go_wp2_with fail
              go_region
              all_goals
                go_wp2_with fail
                refine bodyPost_ret (v := .tuple #[.agg #[.string ⟨#[]⟩, .string ⟨#[]⟩, .slice none 0 0], .int .i64 8, .int .i64 y.q.at_]) (by simp [results, Tryz.results22, go_sem, hQl, q0, q1, q2]) rfl ⟨⟨#[]⟩, ⟨#[]⟩, none, 0, 0, ?_, ?_, ?_⟩
                · rw [HE.out]
                · exact (fr3 hfr2 _ (Or.inr (Nat.le_refl _)) _ _ _).drewr
                · rw [HE.out]; intro h; cases h
            · have HG : Hid (sdB R k = false) := by show _ = _; rw [HB.out, hrg]; rfl
              clear hrg
              go_wp2_with fail
              go_roundw
              case rel => exact ⟨k + 1, by omega, by go_num, below_step HJ.out HG.out, hfr2, hT2, hQ2, hV2⟩
              case measure => simp [intOf]; omega
          · have HE : Hid (rdT s = (0, 0)) := by
              show _ = _
              rw [rdT, if_neg HE0.out, if_neg HK.out, HRr.out, if_neg (by have := HRL.out; omega), firstB_none (sdB R) _ (fun j hj => HJ.out j (by have := HRL.out; omega))]
            have hQl := Blk.lt hQ
            have hlt' : decide (k < th.length) = false := by simp; omega
            have q0 : wr.cell? ⟨w.heap.size, 0, none⟩ = some (.string ⟨#[]⟩) := by rw [Blk.cell hQ]; rfl
            have q1 : wr.cell? ⟨w.heap.size, 1, none⟩ = some (.string ⟨#[]⟩) := by rw [Blk.cell hQ]; rfl
            have q2 : wr.cell? ⟨w.heap.size, 2, none⟩ = some (.slice none 0 0) := by rw [Blk.cell hQ]; rfl
            have y0 := Blk.frozen hQ 0
            have y1 := Blk.frozen hQ 1
            have y2 := Blk.frozen hQ 2
            go_wp2_with fail
            refine bodyPost_ret (v := .tuple #[.agg #[.string ev, .string bg, .slice va th.length vc], .int .i64 0, .int .i64 0]) (by simp [results, Tryz.results22, go_sem, q0, q1, q2]) rfl ⟨ev, bg, va, th.length, vc, ?_, ?_, ?_⟩
            · rw [HE.out]
            · exact fr3 hfr _ (Or.inr (Nat.le_refl _)) _ _ _
            · intro _
              rw [HRr.out]
              refine ⟨HEv.out.symm, HBg.out.symm, hs6, HK1.out, by have := HRL.out; omega, ?_, th, ?_, rfl, hTH2.out, fun j hj => by have := hlo j hj; omega⟩
              · intro j
                by_cases hj : j < th.length
                · exact HJ.out j (by omega)
                · unfold sdB; rw [List.getElem?_eq_none (by have := HRL.out; omega)]
              · exact hV.fr (fr3 (S := fun x => x = w.heap.size) (Fr.refl _ _) w.heap.size (Or.inl rfl) _ _ _) (fun j hj e => by have := hlo j hj; omega)

set_option maxRecDepth 100000 in
set_option maxHeartbeats 1000000 in
theorem rload_any (w : World) (s : ByteArray) (hm : s.size ≤ maxLen) : Calls Tryz.prog 9 #[.string s] w fun e w' => e = .returned (.tuple #[.int .i64 (rdT s).1, .int .i64 (rdT s).2]) ∧ Fr (fun _ => False) w w' := by
 go_enter Tryz.func9, Tryz.ntmps9
 go_wp2_with fail
 refine (readTableD_any w s hm).mono ?_
 rintro e w1 ⟨ev, bg, va, n, vc, rfl, hfr, -⟩
 go_wp2_with fail
 go_ret2
 exact ⟨rfl, by (repeat (first | exact Fr.refl _ _ | assumption | refine Fr.drewNr ?_ _ | refine Fr.drewr ?_ | refine Fr.allocr ?_ _ | refine Fr.setCellr ?_ _ _ (by first | exact Or.inl rfl | (right; simp; done) | (right; simp; omega))))⟩
end Go.Proofs.YtmolmbeeoecnfaaGreatDoor
