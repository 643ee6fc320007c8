/- Own work: TR5. -/
import Derived.Test.YtmolmbeeoecnfabDoorQ35
import Derived.Test.YtmolmbeeoecnfabDoorQ01
import Derived.Test.YtmolmbeeoecnfabDoorQ13
/- Own work: walks of the program's table: leadsToRows, stoodBefore, isRight. -/
namespace Go.Proofs.YtmolmbeeoecnfabDoor
open Go.RowKit Go.BigFrame
set_option linter.unusedVariables false
set_option linter.unusedSimpArgs false

def ldB (n : Nat) (cs : List Cl) (k : Nat) : Bool := match cs[k]? with | some c => decide (n ≤ min c.dst 99) | none => false
def ldQ (n : Nat) (cs : List Cl) : Bool := (firstB (ldB n cs) cs.length).isNone
set_option maxRecDepth 100000 in
set_option maxHeartbeats 1000000 in
theorem leads_any (w : World) (ev bg : ByteArray) (va : Option Addr) (n vc : Nat) (at_ same : Int) (text : ByteArray) (cv : Value) (cs : List Cl) (hc : w.ownsRow 0 95 2 cv cs.length (cs.flatMap clQ)) (hl : cs.length ≤ 1000000) :
    Calls Tryd.prog 56 #[.agg #[.string ev, .string bg, .slice va n vc], .agg #[.int .i64 at_, .string text, .int .i64 same, cv]] w fun e w' => e = .returned (.bool (ldQ n cs)) ∧ Fr (fun _ => False) w w' := by
  obtain ⟨ca, cc, hv⟩ := row_len hc
  have HV : Hid _ := hv
  have HC : Hid _ := hc
  rw [hv]
  clear hv hc
  go_enter Tryd.func56, Tryd.ntmps56
  go_wp2_with fail
  go_loopw [10] (fun i wr => ∃ k : Nat, k ≤ cs.length ∧ i = .int .i64 k ∧ Hid (∀ j, j < k → ldB n cs j = false) ∧ Fr (fun _ => False) w wr ∧ Blk wr w.heap.size #[.string ev, .string bg, .slice va n vc] 55) (fun i _ => cs.length - (intOf i).toNat)
  case atStart => exact ⟨0, Nat.zero_le _, rfl, fun j hj => by omega, by (repeat (first | exact Fr.refl _ _ | assumption | refine Fr.drewNr ?_ _ | refine Fr.drewr ?_ | refine Fr.allocr ?_ _ | refine Fr.setCellr ?_ _ _ (by first | exact Or.inl rfl | (right; simp; done) | (right; simp; omega)))), by first | exact Blk.new _ _ _ | exact Blk.alloc (Blk.new _ _ _) _⟩
  case round =>
    obtain ⟨k, hk, rfl, HJ, hfr, hT⟩ := hrel
    have hTl := Blk.lt hT
    have t2 : wr.cell? ⟨w.heap.size, 2, none⟩ = some (.slice va n vc) := by rw [Blk.cell hT]; rfl
    by_cases hlt : (k : Int) < cs.length
    · have hlt' : k < cs.length := by omega
      obtain ⟨gg, cc2, hv3, hcc⟩ := row_form HC.out (by omega)
      have hvv := HV.out.symm.trans hv3
      injection hvv with q1 q2 q3
      subst q1
      subst q3
      clear q2
      obtain ⟨x, hx⟩ : ∃ x, cs[k]? = some x := ⟨_, List.getElem?_eq_getElem hlt'⟩
      have hr := row_fr HC.out hfr (fun _ _ h => h)
      rw [hv3] at hr
      have key : ∀ o v, o < 2 → (clQ x)[o]? = some v → wr.cell? ⟨gg, k * 2 + o, none⟩ = some v := fun o v ho hv =>
        (row_cell hr (k * 2 + o) v (by rw [flat_get clQ 2 clQ_len cs k o x hx ho]; exact hv)).1
      have x0 := key 0 _ (by omega) rfl
      have x1 := key 1 _ (by omega) rfl
      rw [Nat.add_zero] at x0
      have HF : Hid (ldB n cs k = decide (n ≤ min x.dst 99)) := by show _ = _; simp [ldB, hx]
      clear key hr hv3 hx
      by_cases hge : (n : Int) ≤ (min x.dst 99 : Nat)
      · have HG : Hid (ldQ n cs = false) := by
          show _ = _
          rw [ldQ, firstB_some (ldB n cs) k (by rw [HF.out]; simp; omega) HJ.out _ hlt']; rfl
        go_wp2_with fail
        go_ret
        exact ⟨ret_b HG.out.symm, by (repeat (first | exact Fr.refl _ _ | assumption | refine Fr.drewNr ?_ _ | refine Fr.drewr ?_ | refine Fr.allocr ?_ _ | refine Fr.setCellr ?_ _ _ (by first | exact Or.inl rfl | (right; simp; done) | (right; simp; omega))))⟩
      · have HG : Hid (ldB n cs k = false) := by show _ = _; rw [HF.out]; simp; omega
        have hge' : decide (n ≤ min x.dst 99) = false := by simp; omega
        go_wp2_with fail
        go_roundw
        case rel => exact ⟨k + 1, by omega, by go_num, below_step HJ.out HG.out, by (repeat (first | exact Fr.refl _ _ | assumption | refine Fr.drewNr ?_ _ | refine Fr.drewr ?_ | refine Fr.allocr ?_ _ | refine Fr.setCellr ?_ _ _ (by first | exact Or.inl rfl | (right; simp; done) | (right; simp; omega)))), by first | exact Blk.alloc hT _ | exact hT⟩
        case measure => simp [intOf]; omega
    · have HG : Hid (ldQ n cs = true) := by
        show _ = _
        rw [ldQ, firstB_none (ldB n cs) _ (fun j hj => HJ.out j (by omega))]; rfl
      go_wp2_with fail
      go_ret
      exact ⟨ret_b HG.out.symm, hfr⟩

theorem bytes_ne {a b : ByteArray} (h : a ≠ b) : (a.toList == b.toList) = false := by
  rw [beq_eq_false_iff_ne, ByteArray.toList_eq, ByteArray.toList_eq]; intro e; exact h (ByteArray.ext (Array.toList_inj.1 e))
def stB (R : List Rw) (t : ByteArray) (k : Nat) : Bool := match R[k]? with | some x => decide (x.text = t) | none => false
def stQ (R : List Rw) (t : ByteArray) (n : Nat) : Bool := (firstB (stB R t) n).isSome
set_option maxRecDepth 100000 in
set_option maxHeartbeats 1000000 in
theorem stood_any (w : World) (ev bg : ByteArray) (v : Value) (th : List RwH) (hV : TbV w v th) (i : Nat) (y : RwH) (hy : th[i]? = some y) (hl : th.length ≤ 1000000) :
    Calls Tryd.prog 57 #[.agg #[.string ev, .string bg, v], .int .i64 i] w fun e w' => e = .returned (.bool (stQ (th.map RwH.q) y.q.text i)) ∧ Fr (fun _ => False) w w' := by
  have hil := (List.getElem?_eq_some_iff.1 hy).1
  obtain ⟨gg, cc, hv, hcc⟩ := row_form hV.r (by omega)
  subst hv
  have HV : Hid _ := hV
  have HY : Hid _ := hy
  clear hV hy
  go_enter Tryd.func57, Tryd.ntmps57
  go_wp2_with fail
  go_loopw [5] (fun i' wr => ∃ k : Nat, k ≤ i ∧ i' = .int .i64 k ∧ Hid (∀ j, j < k → stB (th.map RwH.q) y.q.text j = false) ∧ Fr (fun _ => False) w wr ∧ Blk wr w.heap.size #[.string ev, .string bg, .slice (some ⟨gg, 0, none⟩) th.length cc] 55) (fun i' _ => i - (intOf i').toNat)
  case atStart => exact ⟨0, Nat.zero_le _, rfl, fun j hj => by omega, by (repeat (first | exact Fr.refl _ _ | assumption | refine Fr.drewNr ?_ _ | refine Fr.drewr ?_ | refine Fr.allocr ?_ _ | refine Fr.setCellr ?_ _ _ (by first | exact Or.inl rfl | (right; simp; done) | (right; simp; omega)))), Blk.new _ _ _⟩
  case round =>
    obtain ⟨k, hk, rfl, HJ, hfr, hT⟩ := hrel
    have t2 : wr.cell? ⟨w.heap.size, 2, none⟩ = some (.slice (some ⟨gg, 0, none⟩) th.length cc) := by rw [Blk.cell hT]; rfl
    by_cases hlt : (k : Int) < i
    · obtain ⟨x, hx⟩ : ∃ x, th[k]? = some x := ⟨_, List.getElem?_eq_getElem (by omega)⟩
      have hr := row_fr HV.out.r hfr (fun _ _ h => h)
      have x1 : wr.cell? ⟨gg, k * 4 + 1, none⟩ = some (.string x.q.text) := (row_cell hr (k * 4 + 1) _ (by rw [flat_get RwH.pcells 4 RwH.plen th k 1 x hx (by omega)]; rfl)).1
      have y1 : wr.cell? ⟨gg, i * 4 + 1, none⟩ = some (.string y.q.text) := (row_cell hr (i * 4 + 1) _ (by rw [flat_get RwH.pcells 4 RwH.plen th i 1 y HY.out (by omega)]; rfl)).1
      have HF : Hid (stB (th.map RwH.q) y.q.text k = decide (x.q.text = y.q.text)) := by show _ = _; simp [stB, hx]
      have hkl : (k : Int) < th.length := by omega
      have hil' : (i : Int) < th.length := by omega
      clear hx hr
      by_cases he : x.q.text = y.q.text
      · have HG : Hid (stQ (th.map RwH.q) y.q.text i = true) := by
          show _ = _
          rw [stQ, firstB_some (stB (th.map RwH.q) y.q.text) k (by rw [HF.out]; simp [he]) HJ.out _ (by omega)]; rfl
        go_wp2_with fail
        go_big_quiet (fail)
        go_wp2_with fail
        go_ret
        exact ⟨ret_b HG.out.symm, by (repeat (first | exact Fr.refl _ _ | assumption | refine Fr.drewNr ?_ _ | refine Fr.drewr ?_ | refine Fr.allocr ?_ _ | refine Fr.setCellr ?_ _ _ (by first | exact Or.inl rfl | (right; simp; done) | (right; simp; omega))))⟩
      · have HG : Hid (stB (th.map RwH.q) y.q.text k = false) := by show _ = _; rw [HF.out]; simp [he]
        have hne := bytes_ne he
        clear he
        go_wp2_with fail
        go_big_quiet (fail)
        go_wp2_with fail
        go_roundw
        case rel => exact ⟨k + 1, by omega, by go_num, below_step HJ.out HG.out, by (repeat (first | exact Fr.refl _ _ | assumption | refine Fr.drewNr ?_ _ | refine Fr.drewr ?_ | refine Fr.allocr ?_ _ | refine Fr.setCellr ?_ _ _ (by first | exact Or.inl rfl | (right; simp; done) | (right; simp; omega)))), Blk.drewN hT _⟩
        case measure => simp [intOf]; omega
    · have HG : Hid (stQ (th.map RwH.q) y.q.text i = false) := by
        show _ = _
        rw [stQ, firstB_none (stB (th.map RwH.q) y.q.text) _ (fun j hj => HJ.out j (by omega))]; rfl
      go_wp2_with fail
      go_ret
      exact ⟨ret_b HG.out.symm, hfr⟩

/-- Is row i as it must be? What the program asks. -/
def rgQ (R : List Rw) (i : Nat) (r : Rw) : Bool :=
  if smQ r.same ≠ -1 then decide (smQ r.same < i) && (match R[(smQ r.same).toNat]? with | some x => decide (smQ x.same = -1) | none => false)
  else ldQ R.length r.cells && !stQ R r.text i

set_option maxRecDepth 100000 in
set_option maxHeartbeats 1000000 in
theorem isRight_any (w : World) (ev bg : ByteArray) (v : Value) (th : List RwH) (hV : TbV w v th) (i : Nat) (y : RwH) (hy : th[i]? = some y) (hl : th.length ≤ 100) (hc : y.q.cells.length ≤ 1000000) :
    Calls Tryd.prog 33 #[.agg #[.string ev, .string bg, v], .int .i64 i] w fun e w' => e = .returned (.bool (rgQ (th.map RwH.q) i y.q)) ∧ Fr (fun _ => False) w w' := by
  have hil := (List.getElem?_eq_some_iff.1 hy).1
  obtain ⟨gg, cc, hv, hcc⟩ := row_form hV.r (by omega)
  subst hv
  have hil' : (i : Int) < th.length := by omega
  have key : ∀ k (x : RwH), th[k]? = some x → ∀ o v, o < 4 → x.pcells[o]? = some v → w.cell? ⟨gg, k * 4 + o, none⟩ = some v := fun k x hx o v ho hv =>
    (row_cell hV.r (k * 4 + o) v (by rw [flat_get RwH.pcells 4 RwH.plen th k o x hx ho]; exact hv)).1
  have x0 := key i y hy 0 _ (by omega) rfl
  have x1 := key i y hy 1 _ (by omega) rfl
  have x2 := key i y hy 2 _ (by omega) rfl
  have x3 := key i y hy 3 _ (by omega) rfl
  have HK : Hid _ := key
  rw [Nat.add_zero] at x0
  have hgl : gg < w.heap.size := (hV.r.lt gg rfl).2
  have HV : Hid _ := hV
  have HY : Hid _ := hy
  obtain ⟨ca, cc2, hcv⟩ := row_len (hV.rc y (List.mem_of_getElem? hy))
  have HCV : Hid _ := hcv
  rw [hcv] at x3
  clear hV hy key hcv
  by_cases hsm : smQ y.q.same = -1
  · have hnsm : (smQ y.q.same != -1) = false := by rw [hsm]; rfl
    have HR : Hid (rgQ (th.map RwH.q) i y.q = (ldQ th.length y.q.cells && !stQ (th.map RwH.q) y.q.text i)) := by show _ = _; rw [rgQ, if_neg (by simp [hsm])]; simp
    clear hsm
    go_enter Tryd.func33, Tryd.ntmps33
    go_wp2_with fail
    have hfa : Fr (fun _ => False) w ((w.alloc (Obj.cells #[Value.string ev, Value.string bg, Value.slice (some ⟨gg, 0, none⟩) th.length cc] 55)).alloc (Obj.cells #[Value.int IntKind.i64 y.q.at_, Value.string y.q.text, Value.int IntKind.i64 (smQ y.q.same), Value.slice ca y.q.cells.length cc2] 92)) := ((Fr.refl _ _).allocr _).allocr _
    have hTb := Blk.alloc (Blk.new w #[Value.string ev, Value.string bg, Value.slice (some ⟨gg, 0, none⟩) th.length cc] 55) (Obj.cells #[Value.int IntKind.i64 y.q.at_, Value.string y.q.text, Value.int IntKind.i64 (smQ y.q.same), Value.slice ca y.q.cells.length cc2] 92)
    generalize ((w.alloc (Obj.cells #[Value.string ev, Value.string bg, Value.slice (some ⟨gg, 0, none⟩) th.length cc] 55)).alloc (Obj.cells #[Value.int IntKind.i64 y.q.at_, Value.string y.q.text, Value.int IntKind.i64 (smQ y.q.same), Value.slice ca y.q.cells.length cc2] 92)) = W at hfa hTb ⊢
    have hrc := (HV.out.fr hfa (fun _ _ h => h)).rc y (List.mem_of_getElem? HY.out)
    rw [HCV.out] at hrc
    refine (leads_any W ev bg _ th.length cc _ _ _ _ y.q.cells hrc hc).mono ?_
    rintro e w1 ⟨rfl, hf1⟩
    have hfr1 := hfa.thenr hf1 (fun _ _ h => h)
    have hTb1 := Blk.fr hTb hf1 (fun h => h)
    clear hfa hTb hrc hf1
    cases hld : ldQ th.length y.q.cells
    · have HR2 : Hid (rgQ (th.map RwH.q) i y.q = false) := by show _ = _; rw [HR.out, hld]; rfl
      clear hld
      go_wp2_with fail
      go_ret
      exact ⟨ret_b HR2.out.symm, by (repeat (first | exact Fr.refl _ _ | assumption | refine Fr.drewNr ?_ _ | refine Fr.drewr ?_ | refine Fr.allocr ?_ _ | refine Fr.setCellr ?_ _ _ (by first | exact Or.inl rfl | (right; simp; done) | (right; simp; omega))))⟩
    · have HR2 : Hid (rgQ (th.map RwH.q) i y.q = !stQ (th.map RwH.q) y.q.text i) := by show _ = _; rw [HR.out, hld]; rfl
      have t0 : w1.cell? ⟨w.heap.size, 0, none⟩ = some (.string ev) := by rw [Blk.cell hTb1]; rfl
      have t1 : w1.cell? ⟨w.heap.size, 1, none⟩ = some (.string bg) := by rw [Blk.cell hTb1]; rfl
      have t2 : w1.cell? ⟨w.heap.size, 2, none⟩ = some (.slice (some ⟨gg, 0, none⟩) th.length cc) := by rw [Blk.cell hTb1]; rfl
      clear hld
      go_wp2_with fail
      refine (stood_any w1 ev bg _ th (HV.out.fr hfr1 (fun _ _ h => h)) i y HY.out (by omega)).mono ?_
      rintro e w2 ⟨rfl, hf2⟩
      go_wp2_with fail
      go_ret
      exact ⟨ret_b HR2.out.symm, hfr1.thenr hf2 (fun _ _ h => h)⟩
  · obtain ⟨m, hm⟩ : ∃ m : Nat, smQ y.q.same = m := by
      unfold smQ at *
      split at hsm
      · exact absurd rfl hsm
      · rename_i h; exact ⟨(min y.q.same 99).toNat, by rw [if_neg h]; omega⟩
    have HR : Hid (rgQ (th.map RwH.q) i y.q = (decide (m < i) && (match th[m]? with | some x => decide (smQ x.q.same = -1) | none => false))) := by
      show _ = _
      rw [rgQ, if_pos hsm, hm]
      simp only [Int.toNat_natCast, List.getElem?_map]
      cases th[m]? <;> simp
    rw [hm] at x2
    have hnsm : ((m : Int) != -1) = true := by rw [bne_iff_ne]; omega
    clear hsm hm
    by_cases hmi : (m : Int) < i
    · obtain ⟨x, hx⟩ : ∃ x, th[m]? = some x := ⟨_, List.getElem?_eq_getElem (by omega)⟩
      have u2 := HK.out m x hx 2 _ (by omega) rfl
      have hml : (m : Int) < th.length := by omega
      have HR2 : Hid (rgQ (th.map RwH.q) i y.q = (smQ x.q.same == -1)) := by
        show _ = _
        rw [HR.out, hx, decide_eq_true (by omega)]
        simp only [Bool.true_and]
        rw [Bool.eq_iff_iff]; simp
      clear hx HR
      go_enter Tryd.func33, Tryd.ntmps33
      go_wp2_with fail
      first
        | (go_big_quiet (fail)
           go_wp2_with fail
           go_ret
           exact ⟨ret_b HR2.out.symm, by (repeat (first | exact Fr.refl _ _ | assumption | refine Fr.drewNr ?_ _ | refine Fr.drewr ?_ | refine Fr.allocr ?_ _ | refine Fr.setCellr ?_ _ _ (by first | exact Or.inl rfl | (right; simp; done) | (right; simp; omega))))⟩)
        | (go_ret
           exact ⟨ret_b HR2.out.symm, by (repeat (first | exact Fr.refl _ _ | assumption | refine Fr.drewNr ?_ _ | refine Fr.drewr ?_ | refine Fr.allocr ?_ _ | refine Fr.setCellr ?_ _ _ (by first | exact Or.inl rfl | (right; simp; done) | (right; simp; omega))))⟩)
    · have hmi' : decide (m < i) = false := by simp; omega
      have HR2 : Hid (rgQ (th.map RwH.q) i y.q = false) := by
        show _ = _
        rw [HR.out, decide_eq_false (by omega)]; rfl
      go_enter Tryd.func33, Tryd.ntmps33
      go_wp2_with fail
      first
        | (go_big_quiet (fail)
           go_wp2_with fail
           go_ret
           exact ⟨ret_b HR2.out.symm, by (repeat (first | exact Fr.refl _ _ | assumption | refine Fr.drewNr ?_ _ | refine Fr.drewr ?_ | refine Fr.allocr ?_ _ | refine Fr.setCellr ?_ _ _ (by first | exact Or.inl rfl | (right; simp; done) | (right; simp; omega))))⟩)
        | (go_ret
           exact ⟨ret_b HR2.out.symm, by (repeat (first | exact Fr.refl _ _ | assumption | refine Fr.drewNr ?_ _ | refine Fr.drewr ?_ | refine Fr.allocr ?_ _ | refine Fr.setCellr ?_ _ _ (by first | exact Or.inl rfl | (right; simp; done) | (right; simp; omega))))⟩)
end Go.Proofs.YtmolmbeeoecnfabDoor
