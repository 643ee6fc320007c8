/- Own work: walks of the document's Run. -/
import Derived.Test.YtmolmbeeoecnfaaTD7
import Derived.Test.YtmolmbeeoecnfaaTR9
namespace Go.Proofs.Ytmolmbeeoecnfaa
open Go.RowKit Go.BigFrame
set_option linter.unusedVariables false
set_option linter.unusedSimpArgs false

theorem runX_long (s es : ByteArray) (h : 600000 < s.size ∨ 400 < es.size) : runX s es = (⟨#[]⟩, 0, 1, 0) := by
  unfold runX
  by_cases h2 : 400 < es.size
  · rw [if_pos h2]
  · have h3 : ldE s = (1, 0) := by rw [ldE, if_pos (h.resolve_right h2)]
    rw [if_neg h2, h3]; rfl

set_option maxRecDepth 100000 in
set_option maxHeartbeats 1000000 in
theorem rrun_any (w : World) (s es : ByteArray) (hm : s.size ≤ maxLen) (hme : es.size ≤ maxLen) :
    Calls Try.prog 27 #[.string s, .string es] w fun e w' => e = .returned (.tuple #[.string (runX s es).1, .int .i64 (runX s es).2.1, .int .i64 (runX s es).2.2.1, .int .i64 (runX s es).2.2.2]) ∧ Fr (fun _ => False) w w' := by
  have hme' := hme
  have hm' := hm
  unfold maxLen at hme' hm'
  by_cases hb1 : (600000 : Int) < s.size
  · have HE : Hid (runX s es = (⟨#[]⟩, 0, 1, 0)) := runX_long s es (Or.inl (by omega))
    go_enter Try.func27, Try.ntmps27
    go_wp2_with fail
    refine bodyPost_ret (v := .tuple #[.string ⟨#[]⟩, .int .i64 0, .int .i64 1, .int .i64 0]) (by simp [results, Try.results27, go_sem]) rfl ⟨by rw [HE.out]; rfl, by (repeat (first | exact Fr.refl _ _ | assumption | refine Fr.drewNr ?_ _ | refine Fr.drewr ?_ | refine Fr.allocr ?_ _ | refine Fr.setCellr ?_ _ _ (by first | exact Or.inl rfl | (right; simp; done) | (right; simp; omega))))⟩
  · have hd1 : decide ((600000 : Int) < s.size) = false := by simpa using hb1
    by_cases hb2 : (400 : Int) < es.size
    · have HE : Hid (runX s es = (⟨#[]⟩, 0, 1, 0)) := runX_long s es (Or.inr (by omega))
      go_enter Try.func27, Try.ntmps27
      go_wp2_with fail
      refine bodyPost_ret (v := .tuple #[.string ⟨#[]⟩, .int .i64 0, .int .i64 1, .int .i64 0]) (by simp [results, Try.results27, go_sem]) rfl ⟨by rw [HE.out]; rfl, by (repeat (first | exact Fr.refl _ _ | assumption | refine Fr.drewNr ?_ _ | refine Fr.drewr ?_ | refine Fr.allocr ?_ _ | refine Fr.setCellr ?_ _ _ (by first | exact Or.inl rfl | (right; simp; done) | (right; simp; omega))))⟩
    · have hd2 : decide ((400 : Int) < es.size) = false := by simpa using hb2
      have hes : es.size ≤ 400 := by omega
      go_enter Try.func27, Try.ntmps27
      go_wp2_with fail
      refine (readTableD_any w s hm).mono ?_
      rintro e w1 ⟨ev, bg, va, n, vc, rfl, hfr, hyes⟩
      by_cases h0 : (rdT s).1 = 0
      · have hl0 : (ldE s).1 = 0 := by rw [load_eq]; exact h0
        have HE : Hid (runX s es = ((runS (formP s).2.2.rows (formP s).2.2.events (formP s).2.2.begin_ es es.size).1, (runS (formP s).2.2.rows (formP s).2.2.events (formP s).2.2.begin_ es es.size).2, 0, 0)) := by
          show _ = _; rw [runX, if_neg (by omega), if_neg (fun h => h hl0)]
        obtain ⟨rfl, rfl, hs6, hK, h99, hsd, th, hV, rfl, hth, hlo⟩ := hyes h0
        have HOK : Hid (TbOk (th.map RwH.q) (formP s).2.2.events.size s.size) := by
          show TbOk _ _ _
          rw [hth]
          exact tbOk_of s hK h99 hsd
        have HBG : Hid ((formP s).2.2.begin_.size ≤ s.size) := form_bg s
        have HEV : Hid ((formP s).2.2.events.size ≤ s.size) := form_ev s
        rw [← hth] at HE
        rw [h0]
        clear hyes hsd hth h0 hl0
        generalize (formP s).2.2.events = ev at *
        generalize (formP s).2.2.begin_ = bg at *
        have hevs : ev.size ≤ 600000 := by have := HEV.out; omega
        have hbgs : bg.size ≤ 600000 := by have := HBG.out; omega
        have HT : Hid (Blk (w1.alloc (.cells #[.string ev, .string bg, .slice va th.length vc] 58)) w1.heap.size #[.string ev, .string bg, .slice va th.length vc] 58) := Blk.new _ _ _
        have HV : Hid (DTbV (w1.alloc (.cells #[.string ev, .string bg, .slice va th.length vc] 58)) (.slice va th.length vc) th) := hV.fr (Fr.alloc (fun _ => False) _ _) (fun _ _ h => h)
        have HFR : Hid (Fr (fun _ => False) w (w1.alloc (.cells #[.string ev, .string bg, .slice va th.length vc] 58))) := hfr.allocr _
        clear hV hfr
        go_wp2_with fail
        have hT0 := HT.out
        have hV0 := HV.out
        have hfr0 := HFR.out
        clear HT HV HFR
        generalize w1.alloc (.cells #[.string ev, .string bg, .slice va th.length vc] 58) = W at hT0 hV0 hfr0 ⊢
        generalize w1.heap.size = tb at hT0 ⊢
        go_loopw [11, 12, 13] (fun vo vn vi wr => ∃ j : Nat, j ≤ es.size ∧ vi = .int .i64 j ∧ vn = .int .i64 (runS (th.map RwH.q) ev bg es j).2 ∧ vo = .string (runS (th.map RwH.q) ev bg es j).1 ∧ Fr (fun _ => False) w wr ∧ Blk wr tb #[.string ev, .string bg, .slice va th.length vc] 58 ∧ DTbV wr (.slice va th.length vc) th) (fun _ _ vi _ => es.size - (intOf vi).toNat)
        case atStart => exact ⟨0, Nat.zero_le _, rfl, rfl, rfl, hfr0, hT0, hV0⟩
        case round =>
          clear hfr0 hT0 hV0
          obtain ⟨j, hj, rfl, rfl, rfl, hfr, hT, hV⟩ := hrel
          obtain ⟨hnb, hsb⟩ := HOK.out.run bg es j
          rw [List.length_map] at hnb
          by_cases hlt : (j : Int) < es.size
          · have hlt' : j < es.size := by omega
            have hmul : j * (s.size + 1) ≤ 400 * 600001 := Nat.mul_le_mul (by omega) (by omega)
            have HX : Hid (byte es j = es[j]) := byte_in es j hlt'
            have HR : Hid (runS (th.map RwH.q) ev bg es (j + 1) = match colP ev (byte es j) with
              | none => ((runS (th.map RwH.q) ev bg es j).1 ++ ⟨#[46]⟩, (runS (th.map RwH.q) ev bg es j).2)
              | some k => ((runS (th.map RwH.q) ev bg es j).1 ++ ⟨#[46]⟩ ++ (cellOf (th.map RwH.q) (runS (th.map RwH.q) ev bg es j).2 k).acts, (cellOf (th.map RwH.q) (runS (th.map RwH.q) ev bg es j).2 k).dst)) := rfl
            have ho1 : (runS (th.map RwH.q) ev bg es j).1.size ≤ 1000000000 := by omega
            generalize (runS (th.map RwH.q) ev bg es j).1 = o1 at *
            generalize (runS (th.map RwH.q) ev bg es j).2 = n1 at *
            go_wp2_with fail
            refine (cells_any _ tb ev bg _ th hT hV ev.size s.size HOK.out n1 hnb).mono ?_
            rintro e w2 ⟨hf2, ca, cc, rfl, hrow⟩
            have hT2 := Blk.fr hT hf2 (fun h => h)
            have hV2 := hV.fr hf2 (fun _ _ h => h)
            have hfr2 := hfr.thenr hf2 (fun _ _ h => h)
            have hrow2 := row_fr hrow hf2 (fun _ _ h => h)
            clear hT hV hfr hrow hf2
            go_wp2_with fail
            have HS1 : Hid ((o1 ++ ⟨#[46]⟩ : ByteArray).size = o1.size + 1) := by show _ = _; rw [ByteArray.size_append]; rfl
            have ho2 : (o1 ++ ⟨#[46]⟩ : ByteArray).size ≤ 2000000000 := by have := HS1.out; omega
            generalize hoo : o1 ++ (⟨#[46]⟩ : ByteArray) = o2 at *
            go_loopw [11, 12, 15] (fun vo vn vk wr => ∃ k : Nat, k ≤ ev.size ∧ vk = .int .i64 k ∧ vn = .int .i64 n1 ∧ vo = .string o2 ∧ Hid (∀ i, i < k → colB ev (byte es j) i = false) ∧ Fr (fun _ => False) w2 wr) (fun _ _ vk _ => ev.size - (intOf vk).toNat)
            case atStart => exact ⟨0, Nat.zero_le _, rfl, rfl, rfl, fun i hi => (by omega), Fr.refl _ _⟩
            case round =>
              obtain ⟨k, hk, rfl, rfl, rfl, HJ, hf3⟩ := hrel
              have hT3 := Blk.fr hT2 hf3 (fun h => h)
              have hV3 := hV2.fr hf3 (fun _ _ h => h)
              have hfr3 := hfr2.thenr hf3 (fun _ _ h => h)
              have hrow3 := row_fr hrow2 hf3 (fun _ _ h => h)
              have t0 : wr.cell? ⟨tb, 0, none⟩ = some (.string ev) := by rw [Blk.cell hT3]; rfl
              by_cases hkl : (k : Int) < ev.size
              · have hkl' : k < ev.size := by omega
                have HE2 : Hid (byte ev k = ev[k]) := byte_in ev k hkl'
                by_cases he : byte ev k = byte es j
                · have hcol : colP ev (byte es j) = some k := firstB_some (colB ev (byte es j)) k (by simp [colB, he]) HJ.out _ hkl'
                  have HR2 : Hid (runS (th.map RwH.q) ev bg es (j + 1) = (o2 ++ (cellOf (th.map RwH.q) n1 k).acts, (cellOf (th.map RwH.q) n1 k).dst)) := by show _ = _; rw [HR.out, hcol]
                  have he1 : ((ev[k].toNat : Int) == es[j].toNat) = true := by rw [beq_iff_eq, ← HE2.out, ← HX.out, he]
                  obtain ⟨hce, hcd, hca⟩ := HOK.out.cell (n := n1) (k := k) (by rw [List.length_map]; exact hnb) hkl'
                  obtain ⟨ge, ce, hcv, -⟩ := row_form hrow3 (by omega)
                  injection hcv with v1 v2 v3
                  subst v1
                  subst v3
                  clear v2
                  have e0 := (row_cell hrow3 (k * 2 + 0) _ (by rw [flat_get clD 2 clD_len _ k 0 _ hce (by omega)]; rfl)).1
                  have e1 := (row_cell hrow3 (k * 2 + 1) _ (by rw [flat_get clD 2 clD_len _ k 1 _ hce (by omega)]; rfl)).1
                  rw [Nat.add_zero] at e0
                  have hca' : (cellOf (th.map RwH.q) n1 k).acts.size ≤ 600000 := by omega
                  generalize cellOf (th.map RwH.q) n1 k = cx at *
                  clear hcol he hce HR
                  go_wp2_with fail
                  go_big_quiet (fail)
                  go_wp2_with fail
                  go_roundw
                  case rel => exact ⟨j + 1, by omega, by go_num, by rw [HR2.out], by rw [HR2.out], hfr3.drewNr _, Blk.drewN hT3 _, hV3.fr (Fr.drewN (fun _ => False) _ _) (fun _ _ h => h)⟩
                  case measure => simp [intOf]; omega
                · have HC : Hid (colB ev (byte es j) k = false) := by show _ = _; simp [colB, he]
                  have he1 : ((ev[k].toNat : Int) == es[j].toNat) = false := by
                    rw [beq_eq_false_iff_ne]; intro h; exact he (by rw [HE2.out, HX.out]; exact UInt8.toNat_inj.1 (by omega))
                  clear he
                  go_wp2_with fail
                  go_big_quiet (fail)
                  go_wp2_with fail
                  go_roundw
                  case rel => exact ⟨k + 1, by omega, by go_num, rfl, rfl, below_step HJ.out HC.out, hf3.drewNr _⟩
                  case measure => simp [intOf]; omega
              · have hcol : colP ev (byte es j) = none := firstB_none (colB ev (byte es j)) _ (fun i hi => HJ.out i (by omega))
                have HR2 : Hid (runS (th.map RwH.q) ev bg es (j + 1) = (o2, n1)) := by show _ = _; rw [HR.out, hcol]
                have hkd : decide (k < ev.size) = false := by simp; omega
                clear hcol HR
                go_wp2_with fail
                go_roundw
                case rel => exact ⟨j + 1, by omega, by go_num, by rw [HR2.out], by rw [HR2.out], hfr3, hT3, hV3⟩
                case measure => simp [intOf]; omega
          · have hje : j = es.size := by omega
            subst hje
            have HR : Hid (runX s es = ((runS (th.map RwH.q) ev bg es es.size).1, (runS (th.map RwH.q) ev bg es es.size).2, 0, 0)) := HE.out
            clear HE
            generalize hrr : runS (th.map RwH.q) ev bg es es.size = rr at *
            go_wp2_with fail
            refine bodyPost_ret (v := .tuple #[.string rr.1, .int .i64 rr.2, .int .i64 0, .int .i64 0]) (by simp [results, Try.results27, go_sem]) rfl ⟨by rw [HR.out], hfr⟩
      · have hl0 : ¬ (ldE s).1 = 0 := by rw [load_eq]; exact h0
        have HE : Hid (runX s es = (⟨#[]⟩, 0, (rdT s).1, (rdT s).2)) := by
          show _ = _; rw [runX, if_neg (by omega), if_pos hl0, load_eq]
        have hne : ((rdT s).1 != 0) = true := by rw [bne_iff_ne]; exact h0
        clear hyes h0 hl0
        go_wp2_with fail
        refine bodyPost_ret (v := .tuple #[.string ⟨#[]⟩, .int .i64 0, .int .i64 (rdT s).1, .int .i64 (rdT s).2]) (by simp [results, Try.results27, go_sem]) rfl ⟨by rw [HE.out]; rfl, by (repeat (first | exact Fr.refl _ _ | assumption | refine Fr.drewNr ?_ _ | refine Fr.drewr ?_ | refine Fr.allocr ?_ _ | refine Fr.setCellr ?_ _ _ (by first | exact Or.inl rfl | (right; simp; done) | (right; simp; omega))))⟩
end Go.Proofs.Ytmolmbeeoecnfaa
