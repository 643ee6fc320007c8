/- Own work: TR6. -/
import Derived.Test.YtmolmbeeoecnfabDoorQ37
/- Own work: walks of the program's table: load, Load. -/
namespace Go.Proofs.YtmolmbeeoecnfabDoor
open Go.RowKit Go.BigFrame
set_option linter.unusedVariables false
set_option linter.unusedSimpArgs false

def rgB (R : List Rw) (i : Nat) : Bool := match R[i]? with | some r => !rgQ R i r | none => false
def rAt (R : List Rw) (i : Nat) : Nat := match R[i]? with | some r => r.at_ | none => 0
/-- What load answers: the error and its place. -/
def ldE (s : ByteArray) : Int × Int :=
  if 600000 < s.size then (1, 0)
  else if (formP s).1 = false then (8, (formP s).2.1)
  else if 99 < (formP s).2.2.rows.length then (8, rAt (formP s).2.2.rows 99)
  else match firstB (rgB (formP s).2.2.rows) (formP s).2.2.rows.length with
    | some i => (8, rAt (formP s).2.2.rows i)
    | none => (0, 0)

def LdPost (s : ByteArray) (w : World) (e : Ending) (w' : World) : Prop :=
  ∃ ev bg va n vc, e = .returned (.tuple #[.agg #[.string ev, .string bg, .slice va n vc], .int .i64 (ldE s).1, .int .i64 (ldE s).2]) ∧ Fr (fun _ => False) w w' ∧
    ((ldE s).1 = 0 → ev = (formP s).2.2.events ∧ bg = (formP s).2.2.begin_ ∧ s.size ≤ 600000 ∧ (formP s).1 = true ∧ (formP s).2.2.rows.length ≤ 99 ∧ (∀ i, rgB (formP s).2.2.rows i = false) ∧
      ∃ th, TbV w' (.slice va n vc) th ∧ n = th.length ∧ th.map RwH.q = (formP s).2.2.rows ∧ ∀ k, OwnT (.slice va n vc) th k → w.heap.size ≤ k)

theorem form_len (s : ByteArray) : (formP s).2.2.rows.length ≤ s.size := by
  unfold formP
  simp only
  split
  · exact Nat.zero_le _
  · rename_i h1
    have hb1 : tev s ≤ s.size := (evE_bd s 0 0 (Nat.zero_le _)).2
    have hin := sg_in s 59 (tev s) (by decide) (by simpa using h1)
    have hb2 : tbg s ≤ s.size := dend_le s _ hin
    split
    · exact Nat.zero_le _
    · rename_i h2
      have hin2 := sg_in s 59 (tbg s) (by decide) (by simpa using h2)
      exact rwF_len s _ _ _ _ hin2 (Nat.zero_le _)
theorem form_wd (s : ByteArray) : ∀ r ∈ (formP s).2.2.rows, (0 ≤ r.same ∧ r.cells = []) ∨ (r.same = -1 ∧ r.cells.length = (formP s).2.2.events.size) := by
  unfold formP
  simp only
  have hb1 : tev s ≤ s.size := (evE_bd s 0 0 (Nat.zero_le _)).2
  split
  · intro r hr; simp at hr
  · rename_i h1
    have hin := sg_in s 59 (tev s) (by decide) (by simpa using h1)
    have hb2 : tbg s ≤ s.size := dend_le s _ hin
    split
    · intro r hr; simp at hr
    · rename_i h2
      have hin2 := sg_in s 59 (tbg s) (by decide) (by simpa using h2)
      have h3 := rwF_wd s (tev s) (s.size + 1 - (tbg s + 1)) (tbg s + 1) [] hin2 (fun r hr => by simp at hr)
      simp only
      rw [cut_size s 0 _ (Nat.zero_le _) hb1]
      exact h3
theorem form_ev (s : ByteArray) : (formP s).2.2.events.size ≤ s.size := by
  unfold formP
  simp only
  have hb1 : tev s ≤ s.size := (evE_bd s 0 0 (Nat.zero_le _)).2
  split
  · exact Nat.zero_le _
  · split
    · exact Nat.zero_le _
    · simp only; rw [cut_size s 0 _ (Nat.zero_le _) hb1]; omega

set_option maxRecDepth 100000 in
set_option maxHeartbeats 1000000 in
theorem load_any (w : World) (s : ByteArray) (hm : s.size ≤ maxLen) : Calls Tryd.prog 17 #[.string s] w (LdPost s w) := by
  unfold maxLen at hm
  by_cases hbig : (600000 : Int) < s.size
  · have HE : Hid (ldE s = (1, 0)) := by show _ = _; rw [ldE, if_pos (by omega)]
    go_enter Tryd.func17, Tryd.ntmps17
    go_wp2_with fail
    refine bodyPost_ret (v := .tuple #[.agg #[.string ⟨#[]⟩, .string ⟨#[]⟩, .slice none 0 0], .int .i64 1, .int .i64 0]) (by simp [results, Tryd.results17, go_sem]) rfl ⟨⟨#[]⟩, ⟨#[]⟩, none, 0, 0, ?_, ?_, ?_⟩
    · rw [HE.out]
    · exact by (repeat (first | exact Fr.refl _ _ | assumption | refine Fr.drewNr ?_ _ | refine Fr.drewr ?_ | refine Fr.allocr ?_ _ | refine Fr.setCellr ?_ _ _ (by first | exact Or.inl rfl | (right; simp; done) | (right; simp; omega))))
    · rw [HE.out]; intro h; cases h
  · have hd : decide ((600000 : Int) < s.size) = false := by simpa using hbig
    have hs6 : s.size ≤ 600000 := by omega
    have HE0 : Hid (¬ 600000 < s.size) := by show ¬ _; omega
    go_enter Tryd.func17, Tryd.ntmps17
    go_wp2_with fail
    have hQ := Blk.alloc (Blk.new w #[.string ⟨#[]⟩, .string ⟨#[]⟩, .slice none 0 0] 55) (Obj.cells #[Value.string s, Value.int IntKind.i64 0] 77)
    have hp : RdB ((w.alloc (Obj.cells #[.string ⟨#[]⟩, .string ⟨#[]⟩, .slice none 0 0] 55)).alloc (Obj.cells #[Value.string s, Value.int IntKind.i64 0] 77)) (w.heap.size + 1) s 0 := Blk.new' _ _ _ _ (by simp)
    have hfa : Fr (fun _ => False) w ((w.alloc (Obj.cells #[.string ⟨#[]⟩, .string ⟨#[]⟩, .slice none 0 0] 55)).alloc (Obj.cells #[Value.string s, Value.int IntKind.i64 0] 77)) := by (repeat (first | exact Fr.refl _ _ | assumption | refine Fr.drewNr ?_ _ | refine Fr.drewr ?_ | refine Fr.allocr ?_ _ | refine Fr.setCellr ?_ _ _ (by first | exact Or.inl rfl | (right; simp; done) | (right; simp; omega))))
    have hsz : ((w.alloc (Obj.cells #[.string ⟨#[]⟩, .string ⟨#[]⟩, .slice none 0 0] 55)).alloc (Obj.cells #[Value.string s, Value.int IntKind.i64 0] 77)).heap.size = w.heap.size + 2 := by simp
    generalize ((w.alloc (Obj.cells #[.string ⟨#[]⟩, .string ⟨#[]⟩, .slice none 0 0] 55)).alloc (Obj.cells #[Value.string s, Value.int IntKind.i64 0] 77)) = W at hQ hp hfa hsz ⊢
    refine (readTable_any W (w.heap.size + 1) s hp (by omega)).mono ?_
    rintro e w1 ⟨hp1, hf1, ev, bg, va, n, vc, rfl, hyes⟩
    have hQ1 := Blk.fr hQ hf1 (by omega)
    have hfr1 := hfa.thenr hf1 (fun i hi h => by omega)
    have hQl := Blk.lt hQ1
    clear hQ hp hfa hf1
    obtain ⟨c0, c1, -⟩ := hp1.cells
    have hpl := Blk.lt hp1
    have q0 : w1.cell? ⟨w.heap.size, 0, none⟩ = some (.string ⟨#[]⟩) := by rw [Blk.cell hQ1]; rfl
    have q1 : w1.cell? ⟨w.heap.size, 1, none⟩ = some (.string ⟨#[]⟩) := by rw [Blk.cell hQ1]; rfl
    have q2 : w1.cell? ⟨w.heap.size, 2, none⟩ = some (.slice none 0 0) := by rw [Blk.cell hQ1]; rfl
    have y0 := Blk.frozen hQ1 0
    have y1 := Blk.frozen hQ1 1
    have y2 := Blk.frozen hQ1 2
    by_cases hK : (formP s).1 = false
    · have HE : Hid (ldE s = (8, ((formP s).2.1 : Int))) := by show _ = _; rw [ldE, if_neg HE0.out, if_pos hK]
      rw [hK]
      clear hK hyes
      go_wp2_with fail
      go_region
      all_goals
        go_wp2_with fail
        refine bodyPost_ret (v := .tuple #[.agg #[.string ⟨#[]⟩, .string ⟨#[]⟩, .slice none 0 0], .int .i64 8, .int .i64 (formP s).2.1]) (by simp [results, Tryd.results17, go_sem, hQl, q0, q1, q2]) rfl ⟨⟨#[]⟩, ⟨#[]⟩, none, 0, 0, ?_, ?_, ?_⟩
        · rw [HE.out]
        · exact ((fr3 hfr1 _ (Or.inr (Nat.le_refl _)) _ _ _).allocr _).drewr
        · rw [HE.out]; intro h; cases h
    · have hK' : (formP s).1 = true := by simpa using hK
      obtain ⟨rfl, rfl, th, hV, rfl, hth, hlo⟩ := hyes hK'
      have HK : Hid (¬ (formP s).1 = false) := hK
      have HK1 : Hid ((formP s).1 = true) := hK'
      have HFL : Hid _ := form_len s
      have HFW : Hid _ := form_wd s
      have HFE : Hid _ := form_ev s
      rw [hK']
      clear hK hK' hyes q0 q1 q2 y0 y1 y2
      generalize hR : (formP s).2.2.rows = R at *
      have HRr : Hid ((formP s).2.2.rows = R) := hR
      generalize hEv : (formP s).2.2.events = ev at *
      generalize hBg : (formP s).2.2.begin_ = bg at *
      have HTH : Hid (th.map RwH.q = R.take 100) := hth
      have HLN : Hid (th.length = min 100 R.length) := by show _ = _; have := congrArg List.length hth; simpa using this
      have hl100 : th.length ≤ 100 := by have := HLN.out; omega
      have HT : Hid _ := Blk.new w1 #[.string ev, .string bg, .slice va th.length vc] 55
      have HQ : Hid _ := Blk.alloc hQ1 (.cells #[.string ev, .string bg, .slice va th.length vc] 55)
      have HFR : Hid _ := hfr1.allocr (.cells #[.string ev, .string bg, .slice va th.length vc] 55)
      have HV : Hid (TbV (w1.alloc (.cells #[.string ev, .string bg, .slice va th.length vc] 55)) _ th) := hV.fr (Fr.alloc (fun _ => False) _ _) (fun _ _ h => h)
      have hpl1 := Blk.lt hp1
      have HEv : Hid ((formP s).2.2.events = ev) := hEv
      have HBg : Hid ((formP s).2.2.begin_ = bg) := hBg
      clear hth hR hEv hBg hV hQ1 hfr1 c0 c1 hp1
      by_cases h99 : (99 : Int) < th.length
      · have hHV := HV.out
        obtain ⟨gg, cc, hv, hcc⟩ := row_form hHV.r (by omega)
        injection hv with v1 v2 v3
        subst v1
        subst v3
        clear v2
        obtain ⟨y, hy⟩ : ∃ y, th[99]? = some y := ⟨_, List.getElem?_eq_getElem (by omega)⟩
        have a0 := (row_cell hHV.r (99 * 4 + 0) _ (by rw [flat_get RwH.pcells 4 RwH.plen th 99 0 y hy (by omega)]; rfl)).1
        simp only [Nat.reduceMul, Nat.add_zero] at a0
        have HE : Hid (ldE s = (8, (y.q.at_ : Int))) := by
          show _ = _
          have h1 : R[99]? = some y.q := by
            have h2 := congrArg (fun l => l[99]?) HTH.out
            simp only [List.getElem?_map, hy, Option.map_some, List.getElem?_take] at h2
            simpa using h2.symm
          rw [ldE, if_neg HE0.out, if_neg HK.out, HRr.out, if_pos (by have := HLN.out; omega), rAt, h1]
        have hQ2 := HQ.out
        have hT2 := HT.out
        have hfr2 := HFR.out
        clear hHV hy
        go_wp2_with fail
        generalize w1.alloc (.cells #[.string ev, .string bg, .slice (some ⟨gg, 0, none⟩) th.length vc] 55) = W2 at hQ2 hT2 hfr2 a0 ⊢
        generalize w1.heap.size = tb at hT2 hQl hpl1 ⊢
        have hQl := Blk.lt hQ2
        have t2 : W2.cell? ⟨tb, 2, none⟩ = some (.slice (some ⟨gg, 0, none⟩) th.length vc) := by rw [Blk.cell hT2]; rfl
        have q0 : W2.cell? ⟨w.heap.size, 0, none⟩ = some (.string ⟨#[]⟩) := by rw [Blk.cell hQ2]; rfl
        have q1 : W2.cell? ⟨w.heap.size, 1, none⟩ = some (.string ⟨#[]⟩) := by rw [Blk.cell hQ2]; rfl
        have q2 : W2.cell? ⟨w.heap.size, 2, none⟩ = some (.slice none 0 0) := by rw [Blk.cell hQ2]; rfl
        have y0 := Blk.frozen hQ2 0
        have y1 := Blk.frozen hQ2 1
        have y2 := Blk.frozen hQ2 2
        go_region
        all_goals
          go_wp2_with fail
          refine bodyPost_ret (v := .tuple #[.agg #[.string ⟨#[]⟩, .string ⟨#[]⟩, .slice none 0 0], .int .i64 8, .int .i64 y.q.at_]) (by simp [results, Tryd.results17, go_sem, hQl, q0, q1, q2]) rfl ⟨⟨#[]⟩, ⟨#[]⟩, none, 0, 0, ?_, ?_, ?_⟩
          · rw [HE.out]
          · exact (fr3 hfr2 _ (Or.inr (Nat.le_refl _)) _ _ _).drewr
          · rw [HE.out]; intro h; cases h
      · have h99' : decide (99 < th.length) = false := by simp; omega
        have hTH2 : Hid (th.map RwH.q = R) := by
          show _ = _
          rw [HTH.out, List.take_of_length_le (by have := HLN.out; omega)]
        have HRL : Hid (R.length = th.length) := by show _ = _; rw [← hTH2.out]; simp
        go_wp2_with fail
        have hQ2 := HQ.out
        have hT2 := HT.out
        have hfr2 := HFR.out
        have hV2 := HV.out
        generalize w1.alloc (.cells #[.string ev, .string bg, .slice va th.length vc] 55) = W2 at hQ2 hT2 hfr2 hV2 ⊢
        generalize w1.heap.size = tb at hT2 hQl hpl1 ⊢
        clear HT HQ HFR HV
        have htb : w.heap.size + 2 ≤ tb := by omega
        go_loopw [37] (fun i wr => ∃ k : Nat, k ≤ th.length ∧ i = .int .i64 k ∧ Hid (∀ j, j < k → rgB R j = false) ∧ Fr (fun _ => False) w wr ∧ Blk wr tb #[.string ev, .string bg, .slice va th.length vc] 55 ∧ Blk wr w.heap.size #[.string ⟨#[]⟩, .string ⟨#[]⟩, .slice none 0 0] 55 ∧ TbV wr (.slice va th.length vc) th) (fun i _ => th.length - (intOf i).toNat)
        case atStart => exact ⟨0, Nat.zero_le _, rfl, fun j hj => by omega, hfr2, hT2, hQ2, hV2⟩
        case round =>
          clear hfr2 hT2 hQ2 hV2
          obtain ⟨k, hk, rfl, HJ, hfr, hT, hQ, hV⟩ := hrel
          have t0 : wr.cell? ⟨tb, 0, none⟩ = some (.string ev) := by rw [Blk.cell hT]; rfl
          have t1 : wr.cell? ⟨tb, 1, none⟩ = some (.string bg) := by rw [Blk.cell hT]; rfl
          have t2 : wr.cell? ⟨tb, 2, none⟩ = some (.slice va th.length vc) := by rw [Blk.cell hT]; rfl
          by_cases hlt : (k : Int) < th.length
          · obtain ⟨y, hy⟩ : ∃ y, th[k]? = some y := ⟨_, List.getElem?_eq_getElem (by omega)⟩
            have hyR : R[k]? = some y.q := by rw [← hTH2.out]; simp [hy]
            have hcl : y.q.cells.length ≤ 1000000 := by
              rcases HFW.out y.q (List.mem_of_getElem? hyR) with h | h
              · rw [h.2]; simp
              · have := HFE.out; omega
            have HB : Hid (rgB R k = !rgQ R k y.q) := by show _ = _; simp [rgB, hyR]
            have HAT : Hid (rAt R k = y.q.at_) := by show _ = _; simp [rAt, hyR]
            have HYY : Hid _ := hy
            clear hy hyR
            go_wp2_with fail
            refine (isRight_any wr ev bg _ th hV k y HYY.out (by omega) hcl).mono ?_
            rintro e w2 ⟨rfl, hf2⟩
            rw [hTH2.out]
            have hfr2 := hfr.thenr hf2 (fun _ _ h => h)
            have hT2 := Blk.fr hT hf2 (fun h => h)
            have hQ2 := Blk.fr hQ hf2 (fun h => h)
            have hV2 := hV.fr hf2 (fun _ _ h => h)
            clear hfr hT hQ hV t0 t1 t2
            cases hrg : rgQ R k y.q
            · have HE : Hid (ldE s = (8, (y.q.at_ : Int))) := by
                show _ = _
                rw [ldE, if_neg HE0.out, if_neg HK.out, HRr.out, if_neg (by have := HRL.out; omega), firstB_some (rgB R) k (by rw [HB.out, hrg]; rfl) HJ.out _ (by have := HRL.out; omega)]
                simp only [HAT.out]
              obtain ⟨gg, cc, hv, hcc⟩ := row_form hV2.r (by omega)
              injection hv with v1 v2 v3
              subst v1
              subst v3
              clear v2 hrg
              have hgg : w.heap.size + 2 ≤ gg := by have := hlo gg (Or.inl rfl); omega
              have hggn : gg ≠ w.heap.size := by omega
              have hggn' : w.heap.size ≠ gg := by omega
              have a0 := (row_cell hV2.r (k * 4 + 0) _ (by rw [flat_get RwH.pcells 4 RwH.plen th k 0 y HYY.out (by omega)]; rfl)).1
              rw [Nat.add_zero] at a0
              have t2 : w2.cell? ⟨tb, 2, none⟩ = some (.slice (some ⟨gg, 0, none⟩) th.length vc) := by rw [Blk.cell hT2]; rfl
              have hQl := Blk.lt hQ2
              have q0 : w2.cell? ⟨w.heap.size, 0, none⟩ = some (.string ⟨#[]⟩) := by rw [Blk.cell hQ2]; rfl
              have q1 : w2.cell? ⟨w.heap.size, 1, none⟩ = some (.string ⟨#[]⟩) := by rw [Blk.cell hQ2]; rfl
              have q2 : w2.cell? ⟨w.heap.size, 2, none⟩ = some (.slice none 0 0) := by rw [Blk.cell hQ2]; rfl
              have y0 := Blk.frozen hQ2 0
              have y1 := Blk.frozen hQ2 1
              have y2 := Blk.frozen hQ2 2
              go_wp2_with fail
              go_region
              all_goals
                go_wp2_with fail
                refine bodyPost_ret (v := .tuple #[.agg #[.string ⟨#[]⟩, .string ⟨#[]⟩, .slice none 0 0], .int .i64 8, .int .i64 y.q.at_]) (by simp [results, Tryd.results17, go_sem, hQl, q0, q1, q2]) rfl ⟨⟨#[]⟩, ⟨#[]⟩, none, 0, 0, ?_, ?_, ?_⟩
                · rw [HE.out]
                · exact (fr3 hfr2 _ (Or.inr (Nat.le_refl _)) _ _ _).drewr
                · rw [HE.out]; intro h; cases h
            · have HG : Hid (rgB R k = false) := by show _ = _; rw [HB.out, hrg]; rfl
              clear hrg
              go_wp2_with fail
              go_roundw
              case rel => exact ⟨k + 1, by omega, by go_num, below_step HJ.out HG.out, hfr2, hT2, hQ2, hV2⟩
              case measure => simp [intOf]; omega
          · have HE : Hid (ldE s = (0, 0)) := by
              show _ = _
              rw [ldE, if_neg HE0.out, if_neg HK.out, HRr.out, if_neg (by have := HRL.out; omega), firstB_none (rgB R) _ (fun j hj => HJ.out j (by have := HRL.out; omega))]
            have hQl := Blk.lt hQ
            have q0 : wr.cell? ⟨w.heap.size, 0, none⟩ = some (.string ⟨#[]⟩) := by rw [Blk.cell hQ]; rfl
            have q1 : wr.cell? ⟨w.heap.size, 1, none⟩ = some (.string ⟨#[]⟩) := by rw [Blk.cell hQ]; rfl
            have q2 : wr.cell? ⟨w.heap.size, 2, none⟩ = some (.slice none 0 0) := by rw [Blk.cell hQ]; rfl
            have y0 := Blk.frozen hQ 0
            have y1 := Blk.frozen hQ 1
            have y2 := Blk.frozen hQ 2
            go_wp2_with fail
            refine bodyPost_ret (v := .tuple #[.agg #[.string ev, .string bg, .slice va th.length vc], .int .i64 0, .int .i64 0]) (by simp [results, Tryd.results17, go_sem, q0, q1, q2]) rfl ⟨ev, bg, va, th.length, vc, ?_, ?_, ?_⟩
            · rw [HE.out]
            · exact fr3 hfr _ (Or.inr (Nat.le_refl _)) _ _ _
            · intro _
              rw [HRr.out]
              refine ⟨HEv.out.symm, HBg.out.symm, hs6, HK1.out, by have := HRL.out; omega, ?_, th, ?_, rfl, hTH2.out, fun j hj => by have := hlo j hj; omega⟩
              · intro j
                by_cases hj : j < th.length
                · exact HJ.out j (by omega)
                · unfold rgB; rw [List.getElem?_eq_none (by have := HRL.out; omega)]
              · exact hV.fr (fr3 (S := fun x => x = w.heap.size) (Fr.refl _ _) w.heap.size (Or.inl rfl) _ _ _) (fun j hj e => by have := hlo j hj; omega)

set_option maxRecDepth 100000 in
set_option maxHeartbeats 1000000 in
theorem pload_any (w : World) (s : ByteArray) (hm : s.size ≤ maxLen) : Calls Tryd.prog 10 #[.string s] w fun e w' => e = .returned (.tuple #[.int .i64 (ldE s).1, .int .i64 (ldE s).2]) ∧ Fr (fun _ => False) w w' := by
  go_enter Tryd.func10, Tryd.ntmps10
  go_wp2_with fail
  refine (load_any w s hm).mono ?_
  rintro e w1 ⟨ev, bg, va, n, vc, rfl, hfr, -⟩
  go_wp2_with fail
  go_ret2
  exact ⟨rfl, by (repeat (first | exact Fr.refl _ _ | assumption | refine Fr.drewNr ?_ _ | refine Fr.drewr ?_ | refine Fr.allocr ?_ _ | refine Fr.setCellr ?_ _ _ (by first | exact Or.inl rfl | (right; simp; done) | (right; simp; omega))))⟩
end Go.Proofs.YtmolmbeeoecnfabDoor
