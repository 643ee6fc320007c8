/- Own work: walks of the document's table: sound. -/
import Derived.Test.YtmolmbeeoecnfaaTD4
import Derived.Test.YtmolmbeeoecnfaaTR6
namespace Go.Proofs.Ytmolmbeeoecnfaa
open Go.RowKit Go.BigFrame
set_option linter.unusedVariables false
set_option linter.unusedSimpArgs false

def ldDB (n : Nat) (cs : List Cl) (k : Nat) : Bool := match cs[k]? with | some c => decide (n ≤ c.dst) | none => false
def ldD (n : Nat) (cs : List Cl) : Bool := (firstB (ldDB n cs) cs.length).isNone
def stDB (R : List Rw) (t : ByteArray) (k : Nat) : Bool := match R[k]? with | some x => decide (x.same < 0) && decide (dText x = t) | none => false
def stD (R : List Rw) (t : ByteArray) (n : Nat) : Bool := (firstB (stDB R t) n).isSome
def sdQ (R : List Rw) (i : Nat) (r : Rw) : Bool :=
  if 0 ≤ r.same then decide (r.same < i) && (match R[r.same.toNat]? with | some x => decide (x.same < 0) | none => false)
  else ldD R.length r.cells && !stD R (dText r) i

set_option maxRecDepth 100000 in
set_option maxHeartbeats 1000000 in
theorem sound_any (w : World) (tb : Nat) (ev bg : ByteArray) (v : Value) (th : List RwH) (hT : Blk w tb #[.string ev, .string bg, v] 58) (hV : DTbV w v th) (hn : v.ownBlock ≠ some tb) (i : Nat) (y : RwH) (hy : th[i]? = some y) (hl : th.length ≤ 1000000) (hc : y.q.cells.length ≤ 1000000) :
    Calls Try.prog 42 #[.pointer (some ⟨tb, 0, none⟩), .int .i64 i] w fun e w' => e = .returned (.bool (sdQ (th.map RwH.q) i y.q)) ∧ Fr (fun _ => False) w w' := by
  have hil := (List.getElem?_eq_some_iff.1 hy).1
  obtain ⟨gg, cc, hv, hcc⟩ := row_form hV.r (by omega)
  subst hv
  have hil' : (i : Int) < th.length := by omega
  have key : ∀ k (x : RwH), th[k]? = some x → ∀ o v, o < 4 → x.dcells[o]? = some v → w.cell? ⟨gg, k * 4 + o, none⟩ = some v := fun k x hx o v ho hv =>
    (row_cell hV.r (k * 4 + o) v (by rw [flat_get RwH.dcells 4 RwH.dlen th k o x hx ho]; exact hv)).1
  have x0 := key i y hy 0 _ (by omega) rfl
  have x1 := key i y hy 1 _ (by omega) rfl
  have x2 := key i y hy 2 _ (by omega) rfl
  have x3 := key i y hy 3 _ (by omega) rfl
  have HK : Hid (∀ k (x : RwH), th[k]? = some x → ∀ o v, o < 4 → x.dcells[o]? = some v → w.cell? ⟨gg, k * 4 + o, none⟩ = some v) := key
  rw [Nat.add_zero] at x0
  have hgl : gg < w.heap.size := (hV.r.lt gg rfl).2
  have htl := Blk.lt hT
  have HT : Hid (Blk w tb #[.string ev, .string bg, .slice (some ⟨gg, 0, none⟩) th.length cc] 58) := hT
  have HV : Hid (DTbV w (.slice (some ⟨gg, 0, none⟩) th.length cc) th) := hV
  have HY : Hid (th[i]? = some y) := hy
  obtain ⟨ca, cc2, hcv⟩ := row_len (hV.rc y (List.mem_of_getElem? hy))
  have HCV : Hid (y.cv = .slice ca y.q.cells.length cc2) := hcv
  have t2 : w.cell? ⟨tb, 2, none⟩ = some (.slice (some ⟨gg, 0, none⟩) th.length cc) := by rw [Blk.cell hT]; rfl
  rw [hcv] at x2
  clear hV hy key hcv hT
  by_cases hsm : 0 ≤ y.q.same
  · obtain ⟨m, hm⟩ : ∃ m : Nat, y.q.same = m := ⟨y.q.same.toNat, by omega⟩
    have HR : Hid (sdQ (th.map RwH.q) i y.q = (decide (m < i) && (match th[m]? with | some x => decide (x.q.same < 0) | none => false))) := by
      show _ = _
      rw [sdQ, if_pos hsm, hm]
      simp only [Int.toNat_natCast, List.getElem?_map]
      cases th[m]? <;> simp
    rw [hm] at x1
    clear hsm hm
    by_cases hmi : (m : Int) < i
    · obtain ⟨x, hx⟩ : ∃ x, th[m]? = some x := ⟨_, List.getElem?_eq_getElem (by omega)⟩
      have u1 := HK.out m x hx 1 _ (by omega) rfl
      have hml : (m : Int) < th.length := by omega
      have HR2 : Hid (sdQ (th.map RwH.q) i y.q = decide (x.q.same < 0)) := by
        show _ = _
        rw [HR.out, hx, decide_eq_true (by omega)]
        simp only [Bool.true_and]
      clear hx HR
      go_enter Try.func42, Try.ntmps42
      go_wp2_with fail
      go_big_quiet (fail)
      go_wp2_with fail
      go_ret
      exact ⟨ret_b HR2.out.symm, by (repeat (first | exact Fr.refl _ _ | assumption | refine Fr.drewNr ?_ _ | refine Fr.drewr ?_ | refine Fr.allocr ?_ _ | refine Fr.setCellr ?_ _ _ (by first | exact Or.inl rfl | (right; simp; done) | (right; simp; omega))))⟩
    · have hmi' : decide (m < i) = false := by simp; omega
      have HR2 : Hid (sdQ (th.map RwH.q) i y.q = false) := by
        show _ = _
        rw [HR.out, decide_eq_false (by omega)]; rfl
      go_enter Try.func42, Try.ntmps42
      go_wp2_with fail
      go_big_quiet (fail)
      go_wp2_with fail
      go_ret
      exact ⟨ret_b HR2.out.symm, by (repeat (first | exact Fr.refl _ _ | assumption | refine Fr.drewNr ?_ _ | refine Fr.drewr ?_ | refine Fr.allocr ?_ _ | refine Fr.setCellr ?_ _ _ (by first | exact Or.inl rfl | (right; simp; done) | (right; simp; omega))))⟩
  · have hsm' : decide (0 ≤ y.q.same) = false := by simpa using hsm
    have HR : Hid (sdQ (th.map RwH.q) i y.q = (ldD th.length y.q.cells && !stD (th.map RwH.q) (dText y.q) i)) := by show _ = _; rw [sdQ, if_neg hsm]; simp
    go_enter Try.func42, Try.ntmps42
    go_wp2_with fail
    have hR0 := Blk.new w #[.int .i64 y.q.at_, .int .i64 y.q.same, .slice ca y.q.cells.length cc2, .string (dText y.q)] 103
    have hfr0 : Fr (fun _ => False) w (w.alloc (.cells #[.int .i64 y.q.at_, .int .i64 y.q.same, .slice ca y.q.cells.length cc2, .string (dText y.q)] 103)) := (Fr.refl _ _).allocr _
    generalize w.alloc (.cells #[.int .i64 y.q.at_, .int .i64 y.q.same, .slice ca y.q.cells.length cc2, .string (dText y.q)] 103) = W at hR0 hfr0 ⊢
    clear x0 x1 x2 x3 t2
    go_loopw [6] (fun vk wr => ∃ k : Nat, k ≤ y.q.cells.length ∧ vk = .int .i64 k ∧ Hid (∀ j, j < k → ldDB th.length y.q.cells j = false) ∧ Fr (fun _ => False) w wr ∧ Blk wr w.heap.size #[.int .i64 y.q.at_, .int .i64 y.q.same, .slice ca y.q.cells.length cc2, .string (dText y.q)] 103) (fun vk _ => y.q.cells.length - (intOf vk).toNat)
    case atStart => exact ⟨0, Nat.zero_le _, rfl, fun j hj => (by omega), hfr0, hR0⟩
    case round =>
      clear hR0 hfr0
      obtain ⟨k, hk, rfl, HJ, hfr, hR⟩ := hrel
      have r2 : wr.cell? ⟨w.heap.size, 2, none⟩ = some (.slice ca y.q.cells.length cc2) := by rw [Blk.cell hR]; rfl
      have hTw := Blk.fr HT.out hfr (fun h => h)
      have t2 : wr.cell? ⟨tb, 2, none⟩ = some (.slice (some ⟨gg, 0, none⟩) th.length cc) := by rw [Blk.cell hTw]; rfl
      clear hTw
      by_cases hlt : (k : Int) < y.q.cells.length
      · have hrc := (HV.out.fr hfr (fun _ _ h => h)).rc y (List.mem_of_getElem? HY.out)
        obtain ⟨ge, ce, hv3, -⟩ := row_form hrc (by omega)
        have hvv := HCV.out.symm.trans hv3
        injection hvv with q1 q2 q3
        subst q1
        subst q3
        clear q2
        rw [HCV.out] at hrc
        obtain ⟨x, hx⟩ : ∃ x, y.q.cells[k]? = some x := ⟨_, List.getElem?_eq_getElem (by omega)⟩
        have e0 := (row_cell hrc (k * 2 + 0) _ (by rw [flat_get clD 2 clD_len y.q.cells k 0 x hx (by omega)]; rfl)).1
        rw [Nat.add_zero] at e0
        have HF : Hid (ldDB th.length y.q.cells k = decide (th.length ≤ x.dst)) := by show _ = _; simp [ldDB, hx]
        clear hrc hx hv3
        by_cases hge : (th.length : Int) ≤ x.dst
        · have HG : Hid (sdQ (th.map RwH.q) i y.q = false) := by
            show _ = _
            rw [HR.out, ldD, firstB_some (ldDB th.length y.q.cells) k (by rw [HF.out]; simp; omega) HJ.out _ (by omega)]; rfl
          go_wp2_with fail
          go_big_quiet (fail)
          go_wp2_with fail
          go_ret
          exact ⟨ret_b HG.out.symm, by (repeat (first | exact Fr.refl _ _ | assumption | refine Fr.drewNr ?_ _ | refine Fr.drewr ?_ | refine Fr.allocr ?_ _ | refine Fr.setCellr ?_ _ _ (by first | exact Or.inl rfl | (right; simp; done) | (right; simp; omega))))⟩
        · have HG : Hid (ldDB th.length y.q.cells k = false) := by show _ = _; rw [HF.out]; simp; omega
          have hge' : decide (th.length ≤ x.dst) = false := by simp; omega
          go_wp2_with fail
          go_big_quiet (fail)
          go_wp2_with fail
          go_roundw
          case rel => exact ⟨k + 1, by omega, by go_num, below_step HJ.out HG.out, by (repeat (first | exact Fr.refl _ _ | assumption | refine Fr.drewNr ?_ _ | refine Fr.drewr ?_ | refine Fr.allocr ?_ _ | refine Fr.setCellr ?_ _ _ (by first | exact Or.inl rfl | (right; simp; done) | (right; simp; omega)))), Blk.drewN hR _⟩
          case measure => simp [intOf]; omega
      · have HL : Hid (sdQ (th.map RwH.q) i y.q = !stD (th.map RwH.q) (dText y.q) i) := by
          show _ = _
          rw [HR.out, ldD, firstB_none (ldDB th.length y.q.cells) _ (fun j hj => HJ.out j (by omega))]; rfl
        have hlt' : decide (k < y.q.cells.length) = false := by simp; omega
        go_wp2_with fail
        clear r2 t2 hlt hlt' HJ
        go_loopw [7] (fun vk wr => ∃ k : Nat, k ≤ i ∧ vk = .int .i64 k ∧ Hid (∀ j, j < k → stDB (th.map RwH.q) (dText y.q) j = false) ∧ Fr (fun _ => False) w wr ∧ Blk wr w.heap.size #[.int .i64 y.q.at_, .int .i64 y.q.same, .slice ca y.q.cells.length cc2, .string (dText y.q)] 103) (fun vk _ => i - (intOf vk).toNat)
        case atStart => exact ⟨0, Nat.zero_le _, rfl, fun j hj => (by omega), hfr, hR⟩
        case round =>
          clear hfr hR
          obtain ⟨m, hm, rfl, HJ, hfr, hR⟩ := hrel
          have r3 : wr.cell? ⟨w.heap.size, 3, none⟩ = some (.string (dText y.q)) := by rw [Blk.cell hR]; rfl
          have hTw := Blk.fr HT.out hfr (fun h => h)
          have t2 : wr.cell? ⟨tb, 2, none⟩ = some (.slice (some ⟨gg, 0, none⟩) th.length cc) := by rw [Blk.cell hTw]; rfl
          clear hTw
          by_cases hlt : (m : Int) < i
          · obtain ⟨x, hx⟩ : ∃ x, th[m]? = some x := ⟨_, List.getElem?_eq_getElem (by omega)⟩
            have hVw := HV.out.fr hfr (fun _ _ h => h)
            have e1 := (row_cell hVw.r (m * 4 + 1) _ (by rw [flat_get RwH.dcells 4 RwH.dlen th m 1 x hx (by omega)]; rfl)).1
            have e3 := (row_cell hVw.r (m * 4 + 3) _ (by rw [flat_get RwH.dcells 4 RwH.dlen th m 3 x hx (by omega)]; rfl)).1
            have HF : Hid (stDB (th.map RwH.q) (dText y.q) m = (decide (x.q.same < 0) && decide (dText x.q = dText y.q))) := by show _ = _; simp [stDB, hx]
            have hml : (m : Int) < th.length := by omega
            clear hVw hx
            by_cases hs0 : x.q.same < 0
            · by_cases he : dText x.q = dText y.q
              · have HG : Hid (sdQ (th.map RwH.q) i y.q = false) := by
                  show _ = _
                  rw [HL.out, stD, firstB_some (stDB (th.map RwH.q) (dText y.q)) m (by rw [HF.out]; simp [hs0, he]) HJ.out _ (by omega)]; rfl
                rw [he] at e3
                clear he
                go_wp2_with fail
                go_big_quiet (fail)
                go_wp2_with fail
                go_ret
                exact ⟨ret_b HG.out.symm, by (repeat (first | exact Fr.refl _ _ | assumption | refine Fr.drewNr ?_ _ | refine Fr.drewr ?_ | refine Fr.allocr ?_ _ | refine Fr.setCellr ?_ _ _ (by first | exact Or.inl rfl | (right; simp; done) | (right; simp; omega))))⟩
              · have HG : Hid (stDB (th.map RwH.q) (dText y.q) m = false) := by show _ = _; rw [HF.out]; simp [he]
                have hne := bytes_ne he
                clear he
                go_wp2_with fail
                go_big_quiet (fail)
                go_wp2_with fail
                go_roundw
                case rel => exact ⟨m + 1, by omega, by go_num, below_step HJ.out HG.out, by (repeat (first | exact Fr.refl _ _ | assumption | refine Fr.drewNr ?_ _ | refine Fr.drewr ?_ | refine Fr.allocr ?_ _ | refine Fr.setCellr ?_ _ _ (by first | exact Or.inl rfl | (right; simp; done) | (right; simp; omega)))), Blk.drewN hR _⟩
                case measure => simp [intOf]; omega
            · have HG : Hid (stDB (th.map RwH.q) (dText y.q) m = false) := by show _ = _; rw [HF.out]; simp [hs0]
              have hs0' : decide (x.q.same < 0) = false := by simpa using hs0
              go_wp2_with fail
              go_big_quiet (fail)
              go_wp2_with fail
              go_roundw
              case rel => exact ⟨m + 1, by omega, by go_num, below_step HJ.out HG.out, by (repeat (first | exact Fr.refl _ _ | assumption | refine Fr.drewNr ?_ _ | refine Fr.drewr ?_ | refine Fr.allocr ?_ _ | refine Fr.setCellr ?_ _ _ (by first | exact Or.inl rfl | (right; simp; done) | (right; simp; omega)))), Blk.drewN hR _⟩
              case measure => simp [intOf]; omega
          · have HG : Hid (sdQ (th.map RwH.q) i y.q = true) := by
              show _ = _
              rw [HL.out, stD, firstB_none (stDB (th.map RwH.q) (dText y.q)) _ (fun j hj => HJ.out j (by omega))]; rfl
            go_wp2_with fail
            go_ret
            exact ⟨ret_b HG.out.symm, hfr⟩
end Go.Proofs.Ytmolmbeeoecnfaa
