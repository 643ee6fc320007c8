/- Own work: PyG. -/
import Derived.Test.YtmolmbeeoecnfaaGreatDoorF15
/- Own work: walks of the player: choose. -/
namespace Go.Proofs.YtmolmbeeoecnfaaGreatDoor
open Go.RowKit Go.BigFrame
set_option linter.unusedVariables false
set_option linter.unusedSimpArgs false

theorem wpList_load_midG {P : Program} {ops : Array Oper} {rest : List Oper} {op : Oper} {a : Act} {w : World} {Q : Exit → Act → World → Prop} (hw : Region.wanted op (yielded ops a.tmps) = true) (ty : TypeId) (x : Operand) (ho : op.op = .load ty x)
  (b o : Nat) (hx : a.eval x = .pointer (some ⟨b, o, none⟩)) (cs : List Value) (d : TypeDesc) (hc : w.rangeAt b o cs)
  (hu : P.underlying ty = some d) (hd : d.isRow = true) (hi : (P.info? ty).map (·.size) = some cs.length)
  (h : wpList P ops Q rest (a.put op.dst (.agg cs.toArray)) w) : wpList P ops Q (op :: rest) a w :=
 wpList_step fun K hK => by rw [if_pos hw]; exact wp_load_mid ty x ho b o hx cs d hc hu hd hi (hK _ _ h)

structure Am where
 target : Int
 mark : UInt8
 memory : Int
def Am.free : Am := ⟨-1, 0, -1⟩
def Am.cells (a : Am) : List Value := [.int .i64 a.target, .int .u8 a.mark.toNat, .int .i64 a.memory]
def memAt (mm : List (List Bool)) (i : Nat) : List Bool := match mm[i]? with | some m => m | none => noSet
def chP (st : List StP) (mm : List (List Bool)) (s : Nat) (a : Am) : Nat × Am :=
 if a.memory ≠ -1 then (inAm st s (memAt mm a.memory.toNat), a)
 else if a.target = -1 then (s + 1, Am.free)
 else if isB st a.target.toNat s = true then (inTo st s a.target.toNat, a)
 else if a.target ≠ s ∨ a.mark = 0 ∨ emp (memAt mm s) = true then (s + 1, Am.free)
 else if a.mark = 42 then (inAm st s (memAt mm s), ⟨-1, 0, s⟩)
 else (inAm st s (memAt mm s), Am.free)
def AmOk (st : List StP) (a : Am) : Prop := -1 ≤ a.target ∧ a.target < st.length ∧ -1 ≤ a.memory ∧ a.memory < st.length

set_option maxRecDepth 100000 in
set_option maxHeartbeats 1000000 in
theorem choose_any (w : World) (b : Nat) (st : List StP) (ws : Wp) (p : Py) (vo : Value) (s : Nat) (a : Am) (hwf : Wf st) (hp : PyV w b st ws p vo) (hs : s < st.length) (ha : AmOk st a) :
    Calls Tryz.prog 67 #[.pointer (some ⟨b, 0, none⟩), .int .i64 s, .agg a.cells.toArray] w fun e w' => e = .returned (.tuple #[.int .i64 (chP st p.mm s a).1, .agg (chP st p.mm s a).2.cells.toArray]) ∧ Fr (fun _ => False) w w' := by
  obtain ⟨gg, cc, hv3, hcc, hgl⟩ := row_gg hp.pl (by omega)
  obtain ⟨a3, k3, e3⟩ : ∃ a k, ws.v3 = .slice a ws.th.length k := row_len hp.pl.r3
  have HV : Hid (ws.v2 = .slice (some ⟨gg, 0, none⟩) st.length cc) := hv3
  have HV3 : Hid (ws.v3 = .slice a3 ws.th.length k3) := e3
  have HWF : Hid (Wf st) := hwf
  have HP : Hid (PyV w b st ws p vo) := hp
  have hlen := hwf.len
  have hbl := Blk.lt hp.blk
  obtain ⟨at_, am, ame⟩ := a
  obtain ⟨h1, h2, h3, h4⟩ := ha
  simp only at h1 h2 h3 h4
  show Calls Tryz.prog 67 #[.pointer (some ⟨b, 0, none⟩), .int .i64 s, .agg #[.int .i64 at_, .int .u8 am.toNat, .int .i64 ame]] w _
  clear hp hwf hv3 e3
  by_cases hme : ame = -1
  · have hmb : (ame != -1) = false := by rw [hme]; rfl
    by_cases hta : at_ = -1
    · have htb : (at_ == -1) = true := by rw [hta]; rfl
      have HR : Hid (chP st p.mm s ⟨at_, am, ame⟩ = (s + 1, Am.free)) := by show _ = _; rw [chP, if_neg (by simp [hme]), if_pos hta]
      clear hme hta
      have HA : Hid (Blk (((w.alloc (.cells #[.int .i64 at_, .int .u8 am.toNat, .int .i64 ame] 128)).alloc (.cells #[.int .i64 0, .int .u8 0, .int .i64 0] 128)).alloc (.cells #[.int .i64 (-1), .int .u8 0, .int .i64 (-1)] 128)) w.heap.size #[.int .i64 at_, .int .u8 am.toNat, .int .i64 ame] 128) := Blk.alloc (Blk.alloc (Blk.new _ _ _) _) _
      have HRs : Hid (Blk (((w.alloc (.cells #[.int .i64 at_, .int .u8 am.toNat, .int .i64 ame] 128)).alloc (.cells #[.int .i64 0, .int .u8 0, .int .i64 0] 128)).alloc (.cells #[.int .i64 (-1), .int .u8 0, .int .i64 (-1)] 128)) (w.heap.size + 1) #[.int .i64 0, .int .u8 0, .int .i64 0] 128) := Blk.alloc (Blk.new' _ _ _ _ (by simp)) _
      have HFb : Hid (Blk (((w.alloc (.cells #[.int .i64 at_, .int .u8 am.toNat, .int .i64 ame] 128)).alloc (.cells #[.int .i64 0, .int .u8 0, .int .i64 0] 128)).alloc (.cells #[.int .i64 (-1), .int .u8 0, .int .i64 (-1)] 128)) (w.heap.size + 1 + 1) #[.int .i64 (-1), .int .u8 0, .int .i64 (-1)] 128) := Blk.new' _ _ _ _ (by simp)
      have HFR : Hid (Fr (fun _ => False) w (((w.alloc (.cells #[.int .i64 at_, .int .u8 am.toNat, .int .i64 ame] 128)).alloc (.cells #[.int .i64 0, .int .u8 0, .int .i64 0] 128)).alloc (.cells #[.int .i64 (-1), .int .u8 0, .int .i64 (-1)] 128))) := (((Fr.refl _ _).allocr _).allocr _).allocr _
      go_enter Tryz.func67, Tryz.ntmps67
      go_wp2_with fail
      have hA := HA.out
      have hRs := HRs.out
      have hFb := HFb.out
      have hfr := HFR.out
      clear HA HRs HFb HFR
      generalize (((w.alloc (.cells #[.int .i64 at_, .int .u8 am.toNat, .int .i64 ame] 128)).alloc (.cells #[.int .i64 0, .int .u8 0, .int .i64 0] 128)).alloc (.cells #[.int .i64 (-1), .int .u8 0, .int .i64 (-1)] 128)) = W at hA hRs hFb hfr ⊢
      have hRl := Blk.lt hRs
      have hAl := Blk.lt hA
      have hFl := Blk.lt hFb
      have hpW := HP.out.fr0 hfr
      have r0 : W.cell? ⟨w.heap.size + 1, 0, none⟩ = some (.int .i64 0) := by rw [Blk.cell hRs]; rfl
      have r1 : W.cell? ⟨w.heap.size + 1, 1, none⟩ = some (.int .u8 0) := by rw [Blk.cell hRs]; rfl
      have r2 : W.cell? ⟨w.heap.size + 1, 2, none⟩ = some (.int .i64 0) := by rw [Blk.cell hRs]; rfl
      have y0 := Blk.frozen hRs 0
      have y1 := Blk.frozen hRs 1
      have y2 := Blk.frozen hRs 2
      have f0 : W.cell? ⟨w.heap.size + 1 + 1, 0, none⟩ = some (.int .i64 (-1)) := by rw [Blk.cell hFb]; rfl
      have f1 : W.cell? ⟨w.heap.size + 1 + 1, 1, none⟩ = some (.int .u8 0) := by rw [Blk.cell hFb]; rfl
      have f2 : W.cell? ⟨w.heap.size + 1 + 1, 2, none⟩ = some (.int .i64 (-1)) := by rw [Blk.cell hFb]; rfl
      go_region
      all_goals
        go_wp2_with fail
        refine bodyPost_ret (v := .tuple #[.int .i64 ((s : Int) + 1), .agg #[.int .i64 (-1), .int .u8 0, .int .i64 (-1)]]) (by simp [results, Tryz.results67, go_sem, r0, r1, r2]) rfl ⟨by rw [HR.out]; rfl, by (repeat (first | exact Fr.refl _ _ | assumption | refine Fr.drewNr ?_ _ | refine Fr.drewr ?_ | refine Fr.allocr ?_ _ | refine Fr.setCellr ?_ _ _ (by first | exact Or.inl rfl | (right; simp; done) | (right; simp; omega))))⟩
    · obtain ⟨ta, htn⟩ : ∃ ta : Nat, at_ = ta := ⟨at_.toNat, by omega⟩
      have hme' : ame = -1 := hme
      subst hme'
      subst htn
      have htb : ((ta : Int) == -1) = false := by rw [beq_eq_false_iff_ne]; exact hta
      have HT : Hid (¬ (ta : Int) = -1) := hta
      have hmm : p.mm[s]? = some (memAt p.mm s) := by
        have h5 := List.getElem?_eq_getElem (show s < p.mm.length by rw [HP.out.ok.lm]; omega)
        rw [memAt, h5]
      have hml : (memAt p.mm s).length = 26 := HP.out.ok.le _ (List.mem_of_getElem? hmm)
      have HRM : Hid (p.mm[s]? = some (memAt p.mm s)) := hmm
      have HMA : Hid (memAt p.mm s = memAt p.mm s) := rfl
      obtain ⟨m, hm⟩ : ∃ m, memAt p.mm s = m := ⟨_, rfl⟩
      have HMM : Hid (memAt p.mm s = m) := hm
      rw [hm] at hml HRM
      clear hme hta hmm hm HMA
      have hta26 : ta < st.length := by omega
      have HA : Hid (Blk (((w.alloc (.cells #[.int .i64 (ta : Int), .int .u8 am.toNat, .int .i64 (-1)] 128)).alloc (.cells #[.int .i64 0, .int .u8 0, .int .i64 0] 128)).alloc (.cells #[.int .i64 (-1), .int .u8 0, .int .i64 (-1)] 128)) w.heap.size #[.int .i64 (ta : Int), .int .u8 am.toNat, .int .i64 (-1)] 128) := Blk.alloc (Blk.alloc (Blk.new _ _ _) _) _
      have HRs : Hid (Blk (((w.alloc (.cells #[.int .i64 (ta : Int), .int .u8 am.toNat, .int .i64 (-1)] 128)).alloc (.cells #[.int .i64 0, .int .u8 0, .int .i64 0] 128)).alloc (.cells #[.int .i64 (-1), .int .u8 0, .int .i64 (-1)] 128)) (w.heap.size + 1) #[.int .i64 0, .int .u8 0, .int .i64 0] 128) := Blk.alloc (Blk.new' _ _ _ _ (by simp)) _
      have HFb : Hid (Blk (((w.alloc (.cells #[.int .i64 (ta : Int), .int .u8 am.toNat, .int .i64 (-1)] 128)).alloc (.cells #[.int .i64 0, .int .u8 0, .int .i64 0] 128)).alloc (.cells #[.int .i64 (-1), .int .u8 0, .int .i64 (-1)] 128)) (w.heap.size + 1 + 1) #[.int .i64 (-1), .int .u8 0, .int .i64 (-1)] 128) := Blk.new' _ _ _ _ (by simp)
      have HFR : Hid (Fr (fun _ => False) w (((w.alloc (.cells #[.int .i64 (ta : Int), .int .u8 am.toNat, .int .i64 (-1)] 128)).alloc (.cells #[.int .i64 0, .int .u8 0, .int .i64 0] 128)).alloc (.cells #[.int .i64 (-1), .int .u8 0, .int .i64 (-1)] 128))) := (((Fr.refl _ _).allocr _).allocr _).allocr _
      go_enter Tryz.func67, Tryz.ntmps67
      go_wp2_with fail
      have hA := HA.out
      have hRs := HRs.out
      have hFb := HFb.out
      have hfr := HFR.out
      clear HA HRs HFb HFR
      generalize (((w.alloc (.cells #[.int .i64 (ta : Int), .int .u8 am.toNat, .int .i64 (-1)] 128)).alloc (.cells #[.int .i64 0, .int .u8 0, .int .i64 0] 128)).alloc (.cells #[.int .i64 (-1), .int .u8 0, .int .i64 (-1)] 128)) = W at hA hRs hFb hfr ⊢
      have hRl := Blk.lt hRs
      have hAl := Blk.lt hA
      have hFl := Blk.lt hFb
      have hpW := HP.out.fr0 hfr
      have HIA : Hid (∀ W, PlR W st ws → Calls Tryz.prog 82 #[.agg #[.slice (some ⟨gg, 0, none⟩) st.length cc, .slice a3 ws.th.length k3], .int .i64 s, .agg (bV m).toArray] W fun e w' => e = .returned (.int .i64 (inAm st s m)) ∧ Fr (fun _ => False) W w') := by
        intro W hW
        have := innerAmong_any W st ws s m HWF.out hW (by omega) hml
        rw [HV.out, HV3.out] at this
        exact this
      have HIT : Hid (∀ W, PlR W st ws → Calls Tryz.prog 84 #[.agg #[.slice (some ⟨gg, 0, none⟩) st.length cc, .slice a3 ws.th.length k3], .int .i64 s, .int .i64 ta] W fun e w' => e = .returned (.int .i64 (inTo st s ta)) ∧ Fr (fun _ => False) W w') := by
        intro W hW
        have := innerTowards_any W st ws s ta HWF.out hW (by omega)
        rw [HV.out, HV3.out] at this
        exact this
      have HIB : Hid (∀ W, PlR W st ws → Calls Tryz.prog 83 #[.agg #[.slice (some ⟨gg, 0, none⟩) st.length cc, .slice a3 ws.th.length k3], .int .i64 ta, .int .i64 s] W fun e w' => e = .returned (.bool (isB st ta s)) ∧ Fr (fun _ => False) W w') := by
        intro W hW
        have := isBelow_any W st ws ta s hW (by omega)
        rw [HV.out, HV3.out] at this
        exact this
      have HEM : Hid (∀ W, PlR W st ws → Calls Tryz.prog 85 #[.agg (bV m).toArray] W fun e w' => e = .returned (.bool (emp m)) ∧ Fr (fun _ => False) W w') := fun W _ => isEmpty_any W m hml
      have HNR : Hid (∀ kk, OwnY b vo kk ∨ OwnP ws kk → ¬ kk = w.heap.size + 1) := by
        rintro kk ((h | h) | h) e
        · omega
        · have := (HP.out.roB kk h).2; omega
        · have := HP.out.np kk h; omega
      have HKS : Hid (∀ w', Fr (fun k => k = w.heap.size + 1) W w' → (w'.cell? ⟨b, 0, none⟩ = some (.slice (some ⟨gg, 0, none⟩) st.length cc) ∧ w'.cell? ⟨b, 1, none⟩ = some (.slice a3 ws.th.length k3) ∧ w'.rangeAt b (28 + s * 26) (bV m) ∧ w'.cell? ⟨w.heap.size, 0, none⟩ = some (.int .i64 (ta : Int)) ∧ w'.cell? ⟨w.heap.size, 1, none⟩ = some (.int .u8 am.toNat) ∧ w'.cell? ⟨w.heap.size, 2, none⟩ = some (.int .i64 (-1)))) := by
        intro w4 hf
        have h1 := hpW.fr hf (fun kk hkk e => HNR.out kk hkk e)
        have h2 := Blk.fr hA hf (by omega)
        exact ⟨by rw [← HV.out]; exact h1.c0, by rw [← HV3.out]; exact h1.c1, h1.rm HRM.out, by rw [Blk.cell h2]; rfl, by rw [Blk.cell h2]; rfl, by rw [Blk.cell h2]; rfl⟩
      have HRS : Hid (∀ w', Fr (fun _ => False) W w' → Blk w' (w.heap.size + 1) #[.int .i64 0, .int .u8 0, .int .i64 0] 128) := fun w' hf => Blk.fr hRs hf (fun h => h)
      have HFBX : Hid (∀ w', Fr (fun _ => False) W w' → Blk w' (w.heap.size + 1 + 1) #[.int .i64 (-1), .int .u8 0, .int .i64 (-1)] 128) := fun w' hf => Blk.fr hFb hf (fun h => h)
      have HK3 : Hid (∀ w4 v0 v1 v2, Fr (fun k => k = w.heap.size + 1) W w4 → Fr (fun k => k = w.heap.size + 1) W (((w4.setCell ⟨w.heap.size + 1, 0, none⟩ v0).setCell ⟨w.heap.size + 1, 1, none⟩ v1).setCell ⟨w.heap.size + 1, 2, none⟩ v2)) := fun w4 v0 v1 v2 hf => ((hf.setCellr _ _ (Or.inl rfl)).setCellr _ _ (Or.inl rfl)).setCellr _ _ (Or.inl rfl)
      have hFW : Fr (fun k => k = w.heap.size + 1) W W := Fr.refl _ _
      have hZW : Fr (fun _ => False) W W := Fr.refl _ _
      have hS0 := HKS.out W (Fr.refl _ _)
      obtain ⟨d0, d1, raM, c0, c1, c2⟩ := hS0
      have hu73 := Tryz.underlying78
      have inM := setInfo hml
      have lenL : (bV m).length = 26 := by rw [bV_len, hml]
      have oneL : ∀ v ∈ bV m, v.oneCell' = true := by intro v hv; simp only [bV, List.mem_map] at hv; obtain ⟨_, _, rfl⟩ := hv; rfl
      have hm0 : (0 : Int) ≤ (s : Int) := by omega
      have hm26 : (s : Int) < 26 := by omega
      have HPLW : Hid (PlR W.drew st ws) := ((hpW.fr0 hZW).fr0 (Fr.drew _ _)).pl
      go_region_held3 (fun w' => w'.cell? ⟨b, 0, none⟩ = some (.slice (some ⟨gg, 0, none⟩) st.length cc) ∧ w'.cell? ⟨b, 1, none⟩ = some (.slice a3 ws.th.length k3) ∧ w'.rangeAt b (28 + s * 26) (bV m) ∧ w'.cell? ⟨w.heap.size, 0, none⟩ = some (.int .i64 (ta : Int)) ∧ w'.cell? ⟨w.heap.size, 1, none⟩ = some (.int .u8 am.toNat) ∧ w'.cell? ⟨w.heap.size, 2, none⟩ = some (.int .i64 (-1))) (first | exact HKS.out _ (by assumption) | exact HKS.out _ (Fr.drewr (by assumption)) | exact HKS.out _ (HK3.out _ _ _ _ (by assumption))) (first | (go_at_call 83; refine Calls.mono (HIB.out _ HPLW.out) ?_; rintro e w4 ⟨rfl, hf4⟩; have hFw4 : Fr (fun k => k = w.heap.size + 1) W w4 := (Fr.drewr hFW).thenr hf4 (fun _ _ h => h.elim); have hZw4 : Fr (fun _ => False) W w4 := (Fr.drewr hZW).thenr hf4 (fun _ _ h => h)))
      all_goals
        have hpW4 := HKS.out w4 hFw4
        obtain ⟨d0, d1, raM, c0, c1, c2⟩ := hpW4
        have HPLw4 : Hid (PlR w4.drew st ws) := ((hpW.fr0 hZw4).fr0 (Fr.drew _ _)).pl
        cases hib : isB st ta s
        · have HB : Hid (¬ isB st ta s = true) := by show ¬ _; rw [hib]; simp
          clear hib
          by_cases hts : (ta : Int) = s
          · have hts' : ta = s := by omega
            have hnb : ((ta : Int) != s) = false := by rw [hts']; simp
            by_cases ham : am = 0
            · have HR : Hid (chP st p.mm s ⟨ta, am, -1⟩ = (s + 1, Am.free)) := by show _ = _; rw [chP, if_neg (by simp), if_neg HT.out, if_neg (by simpa using HB.out), if_pos (Or.inr (Or.inl ham))]
              have hab : ((am.toNat : Int) == 0) = true := by rw [ham]; rfl
              clear ham hts hts'
              go_wp2_with fail
              have hRn := HRS.out w4 hZw4
              have hFn := HFBX.out w4 hZw4
              have r0 : w4.cell? ⟨w.heap.size + 1, 0, none⟩ = some (.int .i64 0) := by rw [Blk.cell hRn]; rfl
              have r1 : w4.cell? ⟨w.heap.size + 1, 1, none⟩ = some (.int .u8 0) := by rw [Blk.cell hRn]; rfl
              have r2 : w4.cell? ⟨w.heap.size + 1, 2, none⟩ = some (.int .i64 0) := by rw [Blk.cell hRn]; rfl
              have y0 := Blk.frozen hRn 0
              have y1 := Blk.frozen hRn 1
              have y2 := Blk.frozen hRn 2
              have f0 : w4.cell? ⟨w.heap.size + 1 + 1, 0, none⟩ = some (.int .i64 (-1)) := by rw [Blk.cell hFn]; rfl
              have f1 : w4.cell? ⟨w.heap.size + 1 + 1, 1, none⟩ = some (.int .u8 0) := by rw [Blk.cell hFn]; rfl
              have f2 : w4.cell? ⟨w.heap.size + 1 + 1, 2, none⟩ = some (.int .i64 (-1)) := by rw [Blk.cell hFn]; rfl
              clear hRn hFn
              go_region
              all_goals
                go_wp2_with fail
                refine bodyPost_ret (v := .tuple #[.int .i64 ((s : Int) + 1), .agg #[.int .i64 (-1), .int .u8 0, .int .i64 (-1)]]) (by simp [results, Tryz.results67, go_sem, r0, r1, r2]) rfl ⟨by rw [HR.out]; rfl, Fr.thenr (hfr.thenr hZw4 (fun _ _ h => h)) (T := fun k => k = w.heap.size + 1) (by (repeat (first | exact Fr.refl _ _ | assumption | refine Fr.drewNr ?_ _ | refine Fr.drewr ?_ | refine Fr.allocr ?_ _ | refine Fr.setCellr ?_ _ _ (by first | exact Or.inl rfl | (right; simp; done) | (right; simp; omega))))) (fun i hi h => by omega)⟩
            · have hab : ((am.toNat : Int) == 0) = false := by
                rw [beq_eq_false_iff_ne]; intro h; exact ham (UInt8.toNat_inj.1 (by show _ = 0; omega))
              have HAM : Hid (¬ am = 0) := ham
              have HTS : Hid ((ta : Int) = s) := hts
              clear ham hts hts'
              go_wp2_with (refine wpList_load_midG (by first | rfl | simp [Region.wanted, yielded]) 78 _ rfl _ _ rfl _ _ raM hu73 rfl inM ?_)
              refine (HEM.out w4 (hpW.fr0 hZw4).pl).mono ?_
              rintro e w5 ⟨rfl, hf5⟩
              have hFw5 : Fr (fun k => k = w.heap.size + 1) W w5 := hFw4.thenr hf5 (fun _ _ h => h.elim)
              have hZw5 : Fr (fun _ => False) W w5 := hZw4.thenr hf5 (fun _ _ h => h)
              obtain ⟨d0, d1, raM, c0, c1, c2⟩ := HKS.out w5 hFw5
              cases hem : emp m with
              | true =>
                have HR : Hid (chP st p.mm s ⟨ta, am, -1⟩ = (s + 1, Am.free)) := by show _ = _; rw [chP, if_neg (by simp), if_neg HT.out, if_neg (by simpa using HB.out), if_pos (Or.inr (Or.inr (by rw [HMM.out]; exact hem)))]
                clear hem
                go_wp2_with fail
                have hRn := HRS.out w5 hZw5
                have hFn := HFBX.out w5 hZw5
                have r0 : w5.cell? ⟨w.heap.size + 1, 0, none⟩ = some (.int .i64 0) := by rw [Blk.cell hRn]; rfl
                have r1 : w5.cell? ⟨w.heap.size + 1, 1, none⟩ = some (.int .u8 0) := by rw [Blk.cell hRn]; rfl
                have r2 : w5.cell? ⟨w.heap.size + 1, 2, none⟩ = some (.int .i64 0) := by rw [Blk.cell hRn]; rfl
                have y0 := Blk.frozen hRn 0
                have y1 := Blk.frozen hRn 1
                have y2 := Blk.frozen hRn 2
                have f0 : w5.cell? ⟨w.heap.size + 1 + 1, 0, none⟩ = some (.int .i64 (-1)) := by rw [Blk.cell hFn]; rfl
                have f1 : w5.cell? ⟨w.heap.size + 1 + 1, 1, none⟩ = some (.int .u8 0) := by rw [Blk.cell hFn]; rfl
                have f2 : w5.cell? ⟨w.heap.size + 1 + 1, 2, none⟩ = some (.int .i64 (-1)) := by rw [Blk.cell hFn]; rfl
                clear hRn hFn
                go_region
                all_goals
                  go_wp2_with fail
                  refine bodyPost_ret (v := .tuple #[.int .i64 ((s : Int) + 1), .agg #[.int .i64 (-1), .int .u8 0, .int .i64 (-1)]]) (by simp [results, Tryz.results67, go_sem, r0, r1, r2]) rfl ⟨by rw [HR.out]; rfl, Fr.thenr (hfr.thenr hZw5 (fun _ _ h => h)) (T := fun k => k = w.heap.size + 1) (by (repeat (first | exact Fr.refl _ _ | assumption | refine Fr.drewNr ?_ _ | refine Fr.drewr ?_ | refine Fr.allocr ?_ _ | refine Fr.setCellr ?_ _ _ (by first | exact Or.inl rfl | (right; simp; done) | (right; simp; omega))))) (fun i hi h => by omega)⟩
              | false =>
                have HC : Hid (¬ ((ta : Int) ≠ s ∨ am = 0 ∨ emp (memAt p.mm s) = true)) := by
                  rintro (h | h | h)
                  · exact h HTS.out
                  · exact HAM.out h
                  · rw [HMM.out, hem] at h; cases h
                clear hem
                have HPLw5 : Hid (PlR w5.drew st ws) := ((hpW.fr0 hZw5).fr0 (Fr.drew _ _)).pl
                go_wp2_with fail
                go_region_held3 (fun w' => w'.cell? ⟨b, 0, none⟩ = some (.slice (some ⟨gg, 0, none⟩) st.length cc) ∧ w'.cell? ⟨b, 1, none⟩ = some (.slice a3 ws.th.length k3) ∧ w'.rangeAt b (28 + s * 26) (bV m) ∧ w'.cell? ⟨w.heap.size, 0, none⟩ = some (.int .i64 (ta : Int)) ∧ w'.cell? ⟨w.heap.size, 1, none⟩ = some (.int .u8 am.toNat) ∧ w'.cell? ⟨w.heap.size, 2, none⟩ = some (.int .i64 (-1))) (first | exact HKS.out _ (by assumption) | exact HKS.out _ (Fr.drewr (by assumption)) | exact HKS.out _ (HK3.out _ _ _ _ (by assumption))) (first | (go_at_call 82; refine Calls.mono (HIA.out _ HPLw5.out) ?_; rintro e w6 ⟨rfl, hf6⟩; have hFw6 : Fr (fun k => k = w.heap.size + 1) W w6 := (Fr.drewr hFw5).thenr hf6 (fun _ _ h => h.elim); have hZw6 : Fr (fun _ => False) W w6 := (Fr.drewr hZw5).thenr hf6 (fun _ _ h => h)))
                all_goals
                  obtain ⟨d0, d1, raM, c0, c1, c2⟩ := HKS.out w6 hFw6
                  by_cases h42 : am = 42
                  · have HR : Hid (chP st p.mm s ⟨ta, am, -1⟩ = (inAm st s m, ⟨-1, 0, s⟩)) := by show _ = _; rw [chP, if_neg (by simp), if_neg HT.out, if_neg (by simpa using HB.out), if_neg HC.out, if_pos h42, HMM.out]
                    have hb42 : ((am.toNat : Int) == 42) = true := by rw [h42]; rfl
                    clear h42
                    have hRn := HRS.out w6 hZw6
                    have r0 : w6.cell? ⟨w.heap.size + 1, 0, none⟩ = some (.int .i64 0) := by rw [Blk.cell hRn]; rfl
                    have r1 : w6.cell? ⟨w.heap.size + 1, 1, none⟩ = some (.int .u8 0) := by rw [Blk.cell hRn]; rfl
                    have r2 : w6.cell? ⟨w.heap.size + 1, 2, none⟩ = some (.int .i64 0) := by rw [Blk.cell hRn]; rfl
                    have y0 := Blk.frozen hRn 0
                    have y1 := Blk.frozen hRn 1
                    have y2 := Blk.frozen hRn 2
                    clear hRn
                    go_wp2_with fail
                    refine bodyPost_ret (v := .tuple #[.int .i64 (inAm st s m), .agg #[.int .i64 (-1), .int .u8 0, .int .i64 s]]) (by simp [results, Tryz.results67, go_sem, r0, r1, r2]) rfl ⟨by rw [HR.out]; rfl, Fr.thenr (hfr.thenr hZw6 (fun _ _ h => h)) (T := fun k => k = w.heap.size + 1) (by (repeat (first | exact Fr.refl _ _ | assumption | refine Fr.drewNr ?_ _ | refine Fr.drewr ?_ | refine Fr.allocr ?_ _ | refine Fr.setCellr ?_ _ _ (by first | exact Or.inl rfl | (right; simp; done) | (right; simp; omega))))) (fun i hi h => by omega)⟩
                  · have HR : Hid (chP st p.mm s ⟨ta, am, -1⟩ = (inAm st s m, Am.free)) := by show _ = _; rw [chP, if_neg (by simp), if_neg HT.out, if_neg (by simpa using HB.out), if_neg HC.out, if_neg h42, HMM.out]
                    have hb42 : ((am.toNat : Int) == 42) = false := by
                      rw [beq_eq_false_iff_ne]; intro h; exact h42 (UInt8.toNat_inj.1 (by show _ = 42; omega))
                    clear h42
                    go_wp2_with fail
                    have hRn := HRS.out w6 hZw6
                    have hFn := HFBX.out w6 hZw6
                    have r0 : w6.cell? ⟨w.heap.size + 1, 0, none⟩ = some (.int .i64 0) := by rw [Blk.cell hRn]; rfl
                    have r1 : w6.cell? ⟨w.heap.size + 1, 1, none⟩ = some (.int .u8 0) := by rw [Blk.cell hRn]; rfl
                    have r2 : w6.cell? ⟨w.heap.size + 1, 2, none⟩ = some (.int .i64 0) := by rw [Blk.cell hRn]; rfl
                    have y0 := Blk.frozen hRn 0
                    have y1 := Blk.frozen hRn 1
                    have y2 := Blk.frozen hRn 2
                    have f0 : w6.cell? ⟨w.heap.size + 1 + 1, 0, none⟩ = some (.int .i64 (-1)) := by rw [Blk.cell hFn]; rfl
                    have f1 : w6.cell? ⟨w.heap.size + 1 + 1, 1, none⟩ = some (.int .u8 0) := by rw [Blk.cell hFn]; rfl
                    have f2 : w6.cell? ⟨w.heap.size + 1 + 1, 2, none⟩ = some (.int .i64 (-1)) := by rw [Blk.cell hFn]; rfl
                    clear hRn hFn
                    go_region
                    all_goals
                      go_wp2_with fail
                      refine bodyPost_ret (v := .tuple #[.int .i64 (inAm st s m), .agg #[.int .i64 (-1), .int .u8 0, .int .i64 (-1)]]) (by simp [results, Tryz.results67, go_sem, r0, r1, r2]) rfl ⟨by rw [HR.out]; rfl, Fr.thenr (hfr.thenr hZw6 (fun _ _ h => h)) (T := fun k => k = w.heap.size + 1) (by (repeat (first | exact Fr.refl _ _ | assumption | refine Fr.drewNr ?_ _ | refine Fr.drewr ?_ | refine Fr.allocr ?_ _ | refine Fr.setCellr ?_ _ _ (by first | exact Or.inl rfl | (right; simp; done) | (right; simp; omega))))) (fun i hi h => by omega)⟩
          · have HR : Hid (chP st p.mm s ⟨ta, am, -1⟩ = (s + 1, Am.free)) := by show _ = _; rw [chP, if_neg (by simp), if_neg HT.out, if_neg (by simpa using HB.out), if_pos (Or.inl hts)]
            have hnb : ((ta : Int) != s) = true := by rw [bne_iff_ne]; exact hts
            clear hts
            go_wp2_with fail
            have hRn := HRS.out w4 hZw4
            have hFn := HFBX.out w4 hZw4
            have r0 : w4.cell? ⟨w.heap.size + 1, 0, none⟩ = some (.int .i64 0) := by rw [Blk.cell hRn]; rfl
            have r1 : w4.cell? ⟨w.heap.size + 1, 1, none⟩ = some (.int .u8 0) := by rw [Blk.cell hRn]; rfl
            have r2 : w4.cell? ⟨w.heap.size + 1, 2, none⟩ = some (.int .i64 0) := by rw [Blk.cell hRn]; rfl
            have y0 := Blk.frozen hRn 0
            have y1 := Blk.frozen hRn 1
            have y2 := Blk.frozen hRn 2
            have f0 : w4.cell? ⟨w.heap.size + 1 + 1, 0, none⟩ = some (.int .i64 (-1)) := by rw [Blk.cell hFn]; rfl
            have f1 : w4.cell? ⟨w.heap.size + 1 + 1, 1, none⟩ = some (.int .u8 0) := by rw [Blk.cell hFn]; rfl
            have f2 : w4.cell? ⟨w.heap.size + 1 + 1, 2, none⟩ = some (.int .i64 (-1)) := by rw [Blk.cell hFn]; rfl
            clear hRn hFn
            go_region
            all_goals
              go_wp2_with fail
              refine bodyPost_ret (v := .tuple #[.int .i64 ((s : Int) + 1), .agg #[.int .i64 (-1), .int .u8 0, .int .i64 (-1)]]) (by simp [results, Tryz.results67, go_sem, r0, r1, r2]) rfl ⟨by rw [HR.out]; rfl, Fr.thenr (hfr.thenr hZw4 (fun _ _ h => h)) (T := fun k => k = w.heap.size + 1) (by (repeat (first | exact Fr.refl _ _ | assumption | refine Fr.drewNr ?_ _ | refine Fr.drewr ?_ | refine Fr.allocr ?_ _ | refine Fr.setCellr ?_ _ _ (by first | exact Or.inl rfl | (right; simp; done) | (right; simp; omega))))) (fun i hi h => by omega)⟩
        · have HR : Hid (chP st p.mm s ⟨ta, am, -1⟩ = (inTo st s ta, ⟨ta, am, -1⟩)) := by show _ = _; rw [chP, if_neg (by simp), if_neg HT.out, if_pos (by simpa using hib)]; rfl
          clear hib
          go_wp2_with fail
          go_region_held3 (fun w' => w'.cell? ⟨b, 0, none⟩ = some (.slice (some ⟨gg, 0, none⟩) st.length cc) ∧ w'.cell? ⟨b, 1, none⟩ = some (.slice a3 ws.th.length k3) ∧ w'.rangeAt b (28 + s * 26) (bV m) ∧ w'.cell? ⟨w.heap.size, 0, none⟩ = some (.int .i64 (ta : Int)) ∧ w'.cell? ⟨w.heap.size, 1, none⟩ = some (.int .u8 am.toNat) ∧ w'.cell? ⟨w.heap.size, 2, none⟩ = some (.int .i64 (-1))) (first | exact HKS.out _ (by assumption) | exact HKS.out _ (Fr.drewr (by assumption)) | exact HKS.out _ (HK3.out _ _ _ _ (by assumption))) (first | (go_at_call 84; refine Calls.mono (HIT.out _ HPLw4.out) ?_; rintro e w5 ⟨rfl, hf5⟩; have hFw5 : Fr (fun k => k = w.heap.size + 1) W w5 := (Fr.drewr hFw4).thenr hf5 (fun _ _ h => h.elim); have hZw5 : Fr (fun _ => False) W w5 := (Fr.drewr hZw4).thenr hf5 (fun _ _ h => h); have hRn := HRS.out w5 hZw5; have r0 : w5.cell? ⟨w.heap.size + 1, 0, none⟩ = some (.int .i64 0) := by { rw [Blk.cell hRn]; rfl }; have r1 : w5.cell? ⟨w.heap.size + 1, 1, none⟩ = some (.int .u8 0) := by { rw [Blk.cell hRn]; rfl }; have r2 : w5.cell? ⟨w.heap.size + 1, 2, none⟩ = some (.int .i64 0) := by { rw [Blk.cell hRn]; rfl }; have y0 := Blk.frozen hRn 0; have y1 := Blk.frozen hRn 1; have y2 := Blk.frozen hRn 2))
          all_goals
            go_wp2_with fail
            refine bodyPost_ret (v := .tuple #[.int .i64 (inTo st s ta), .agg #[.int .i64 ta, .int .u8 am.toNat, .int .i64 (-1)]]) (by simp [results, Tryz.results67, go_sem, r0, r1, r2]) rfl ⟨by rw [HR.out]; rfl, ((((hfr.thenr hZw5 (fun _ _ h => h)).setCellr ⟨w.heap.size + 1, 0, none⟩ _ (Or.inr (by show w.heap.size ≤ w.heap.size + 1; omega))).setCellr ⟨w.heap.size + 1, 1, none⟩ _ (Or.inr (by show w.heap.size ≤ w.heap.size + 1; omega))).setCellr ⟨w.heap.size + 1, 2, none⟩ _ (Or.inr (by show w.heap.size ≤ w.heap.size + 1; omega)))⟩
  · obtain ⟨mi, hmi⟩ : ∃ mi : Nat, ame = mi := ⟨ame.toNat, by omega⟩
    have HR : Hid (chP st p.mm s ⟨at_, am, ame⟩ = (inAm st s (memAt p.mm mi), ⟨at_, am, mi⟩)) := by show _ = _; rw [chP, if_pos hme]; simp only [hmi, Int.toNat_natCast]
    subst hmi
    have hmb : ((mi : Int) != -1) = true := by rw [bne_iff_ne]; exact hme
    have hmm : p.mm[mi]? = some (memAt p.mm mi) := by
      have h5 := List.getElem?_eq_getElem (show mi < p.mm.length by rw [HP.out.ok.lm]; omega)
      rw [memAt, h5]
    have hml : (memAt p.mm mi).length = 26 := HP.out.ok.le _ (List.mem_of_getElem? hmm)
    have HRM : Hid (p.mm[mi]? = some (memAt p.mm mi)) := hmm
    generalize memAt p.mm mi = m at *
    clear hme hmm
    have HA : Hid (Blk (((w.alloc (.cells #[.int .i64 at_, .int .u8 am.toNat, .int .i64 mi] 128)).alloc (.cells #[.int .i64 0, .int .u8 0, .int .i64 0] 128)).alloc (.cells #[.int .i64 (-1), .int .u8 0, .int .i64 (-1)] 128)) w.heap.size #[.int .i64 at_, .int .u8 am.toNat, .int .i64 mi] 128) := Blk.alloc (Blk.alloc (Blk.new _ _ _) _) _
    have HRs : Hid (Blk (((w.alloc (.cells #[.int .i64 at_, .int .u8 am.toNat, .int .i64 mi] 128)).alloc (.cells #[.int .i64 0, .int .u8 0, .int .i64 0] 128)).alloc (.cells #[.int .i64 (-1), .int .u8 0, .int .i64 (-1)] 128)) (w.heap.size + 1) #[.int .i64 0, .int .u8 0, .int .i64 0] 128) := Blk.alloc (Blk.new' _ _ _ _ (by simp)) _
    have HFb : Hid (Blk (((w.alloc (.cells #[.int .i64 at_, .int .u8 am.toNat, .int .i64 mi] 128)).alloc (.cells #[.int .i64 0, .int .u8 0, .int .i64 0] 128)).alloc (.cells #[.int .i64 (-1), .int .u8 0, .int .i64 (-1)] 128)) (w.heap.size + 1 + 1) #[.int .i64 (-1), .int .u8 0, .int .i64 (-1)] 128) := Blk.new' _ _ _ _ (by simp)
    have HFR : Hid (Fr (fun _ => False) w (((w.alloc (.cells #[.int .i64 at_, .int .u8 am.toNat, .int .i64 mi] 128)).alloc (.cells #[.int .i64 0, .int .u8 0, .int .i64 0] 128)).alloc (.cells #[.int .i64 (-1), .int .u8 0, .int .i64 (-1)] 128))) := (((Fr.refl _ _).allocr _).allocr _).allocr _
    go_enter Tryz.func67, Tryz.ntmps67
    go_wp2_with fail
    have hA := HA.out
    have hRs := HRs.out
    have hFb := HFb.out
    have hfr := HFR.out
    clear HA HRs HFb HFR
    generalize (((w.alloc (.cells #[.int .i64 at_, .int .u8 am.toNat, .int .i64 mi] 128)).alloc (.cells #[.int .i64 0, .int .u8 0, .int .i64 0] 128)).alloc (.cells #[.int .i64 (-1), .int .u8 0, .int .i64 (-1)] 128)) = W at hA hRs hFb hfr ⊢
    have hRl := Blk.lt hRs
    have hAl := Blk.lt hA
    have hFl := Blk.lt hFb
    have hpW := HP.out.fr0 hfr
    have r0 : W.cell? ⟨w.heap.size + 1, 0, none⟩ = some (.int .i64 0) := by rw [Blk.cell hRs]; rfl
    have r1 : W.cell? ⟨w.heap.size + 1, 1, none⟩ = some (.int .u8 0) := by rw [Blk.cell hRs]; rfl
    have r2 : W.cell? ⟨w.heap.size + 1, 2, none⟩ = some (.int .i64 0) := by rw [Blk.cell hRs]; rfl
    have y0 := Blk.frozen hRs 0
    have y1 := Blk.frozen hRs 1
    have y2 := Blk.frozen hRs 2
    have c0 : W.cell? ⟨w.heap.size, 0, none⟩ = some (.int .i64 at_) := by rw [Blk.cell hA]; rfl
    have c1 : W.cell? ⟨w.heap.size, 1, none⟩ = some (.int .u8 am.toNat) := by rw [Blk.cell hA]; rfl
    have c2 : W.cell? ⟨w.heap.size, 2, none⟩ = some (.int .i64 mi) := by rw [Blk.cell hA]; rfl
    have HIA : Hid (∀ W, PlR W st ws → Calls Tryz.prog 82 #[.agg #[.slice (some ⟨gg, 0, none⟩) st.length cc, .slice a3 ws.th.length k3], .int .i64 s, .agg (bV m).toArray] W fun e w' => e = .returned (.int .i64 (inAm st s m)) ∧ Fr (fun _ => False) W w') := by
      intro W hW
      have := innerAmong_any W st ws s m HWF.out hW (by omega) hml
      rw [HV.out, HV3.out] at this
      exact this
    have HNR : Hid (∀ kk, OwnY b vo kk ∨ OwnP ws kk → ¬ kk = w.heap.size + 1) := by
      rintro kk ((h | h) | h) e
      · omega
      · have := (HP.out.roB kk h).2; omega
      · have := HP.out.np kk h; omega
    have HKS : Hid (∀ w4, Fr (fun k => k = w.heap.size + 1) W w4 → (w4.cell? ⟨b, 0, none⟩ = some (.slice (some ⟨gg, 0, none⟩) st.length cc) ∧ w4.cell? ⟨b, 1, none⟩ = some (.slice a3 ws.th.length k3) ∧ w4.rangeAt b (28 + mi * 26) (bV m) ∧ w4.cell? ⟨w.heap.size, 0, none⟩ = some (.int .i64 at_) ∧ w4.cell? ⟨w.heap.size, 1, none⟩ = some (.int .u8 am.toNat) ∧ w4.cell? ⟨w.heap.size, 2, none⟩ = some (.int .i64 mi))) := by
      intro w4 hf
      have h1 := hpW.fr hf (fun kk hkk e => HNR.out kk hkk e)
      have h2 := Blk.fr hA hf (by omega)
      exact ⟨by rw [← HV.out]; exact h1.c0, by rw [← HV3.out]; exact h1.c1, h1.rm HRM.out, by rw [Blk.cell h2]; rfl, by rw [Blk.cell h2]; rfl, by rw [Blk.cell h2]; rfl⟩
    have HK3 : Hid (∀ w4 v0 v1 v2, Fr (fun k => k = w.heap.size + 1) W w4 → Fr (fun k => k = w.heap.size + 1) W (((w4.setCell ⟨w.heap.size + 1, 0, none⟩ v0).setCell ⟨w.heap.size + 1, 1, none⟩ v1).setCell ⟨w.heap.size + 1, 2, none⟩ v2)) := fun w4 v0 v1 v2 hf => ((hf.setCellr _ _ (Or.inl rfl)).setCellr _ _ (Or.inl rfl)).setCellr _ _ (Or.inl rfl)
    have hS0 := HKS.out W (Fr.refl _ _)
    obtain ⟨d0, d1, raM, -⟩ := hS0
    have hu73 := Tryz.underlying78
    have inM := setInfo hml
    have lenL : (bV m).length = 26 := by rw [bV_len, hml]
    have oneL : ∀ v ∈ bV m, v.oneCell' = true := by intro v hv; simp only [bV, List.mem_map] at hv; obtain ⟨_, _, rfl⟩ := hv; rfl
    have hm0 : (0 : Int) ≤ (mi : Int) := by omega
    have hm26 : (mi : Int) < 26 := by omega
    have HPL : Hid (PlR W.drew st ws) := (hpW.fr0 (Fr.drew _ _)).pl
    go_region_held3 (fun w' => w'.cell? ⟨b, 0, none⟩ = some (.slice (some ⟨gg, 0, none⟩) st.length cc) ∧ w'.cell? ⟨b, 1, none⟩ = some (.slice a3 ws.th.length k3) ∧ w'.rangeAt b (28 + mi * 26) (bV m) ∧ w'.cell? ⟨w.heap.size, 0, none⟩ = some (.int .i64 at_) ∧ w'.cell? ⟨w.heap.size, 1, none⟩ = some (.int .u8 am.toNat) ∧ w'.cell? ⟨w.heap.size, 2, none⟩ = some (.int .i64 mi)) (first | exact HKS.out _ (by assumption) | exact HKS.out _ (Fr.drewr (Fr.refl _ _)) | exact HKS.out _ (HK3.out _ _ _ _ (by assumption))) (first | (go_at_call 82; refine Calls.mono (HIA.out _ HPL.out) ?_; rintro e w4 ⟨rfl, hf4⟩; have hF4 : Fr (fun k => k = w.heap.size + 1) W w4 := (Fr.drewr (Fr.refl _ _)).thenr hf4 (fun _ _ h => h.elim); have hR4 := Blk.fr hRs.drew hf4 (fun h => h); have r0 : w4.cell? ⟨w.heap.size + 1, 0, none⟩ = some (.int .i64 0) := by { rw [Blk.cell hR4]; rfl }; have r1 : w4.cell? ⟨w.heap.size + 1, 1, none⟩ = some (.int .u8 0) := by { rw [Blk.cell hR4]; rfl }; have r2 : w4.cell? ⟨w.heap.size + 1, 2, none⟩ = some (.int .i64 0) := by { rw [Blk.cell hR4]; rfl }; have y0 := Blk.frozen hR4 0; have y1 := Blk.frozen hR4 1; have y2 := Blk.frozen hR4 2))
    all_goals
      go_wp2_with fail
      refine bodyPost_ret (v := .tuple #[.int .i64 (inAm st s m), .agg #[.int .i64 at_, .int .u8 am.toNat, .int .i64 mi]]) (by simp [results, Tryz.results67, go_sem, r0, r1, r2]) rfl ⟨by rw [HR.out]; rfl, ((((hfr.drewr.thenr hf4 (fun _ _ h => h)).setCellr ⟨w.heap.size + 1, 0, none⟩ _ (Or.inr (by show w.heap.size ≤ w.heap.size + 1; omega))).setCellr ⟨w.heap.size + 1, 1, none⟩ _ (Or.inr (by show w.heap.size ≤ w.heap.size + 1; omega))).setCellr ⟨w.heap.size + 1, 2, none⟩ _ (Or.inr (by show w.heap.size ≤ w.heap.size + 1; omega)))⟩
end Go.Proofs.YtmolmbeeoecnfaaGreatDoor
