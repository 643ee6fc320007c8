/- Own work: the walk of the law Steps. -/
import Derived.Test.YtmolmbeeoecnfaaLawBase
import Derived.Test.YtmolmbeeoecnfaaTD8
namespace Go.Proofs.Ytmolmbeeoecnfaa
open Go.RowKit Go.BigFrame
set_option linter.unusedVariables false
set_option linter.unusedSimpArgs false

theorem byte_app (a b : ByteArray) (i : Nat) (h : i < a.size) : byte (a ++ b) i = byte a i := by
  rw [byte_in a i h, byte_in (a ++ b) i (by rw [ByteArray.size_append]; omega)]
  exact ByteArray.getElem_append_left h
theorem byte_last (a : ByteArray) (c : UInt8) : byte (a ++ ⟨#[c]⟩) a.size = c := by
  rw [byte_in _ _ (by rw [ByteArray.size_append]; show a.size < a.size + 1; omega)]
  rw [ByteArray.getElem_append_right (Nat.le_refl _)]
  simp
  rfl
theorem runS_pre (R : List Rw) (ev bg es x : ByteArray) : ∀ j, j ≤ es.size → runS R ev bg (es ++ x) j = runS R ev bg es j
  | 0, _ => rfl
  | j + 1, h => by
    simp only [runS]
    rw [runS_pre R ev bg es x j (by omega), byte_app es x j (by omega)]
theorem run_next (R : List Rw) (ev bg es : ByteArray) (c : UInt8) : runS R ev bg (es ++ ⟨#[c]⟩) (es ++ ⟨#[c]⟩ : ByteArray).size = match colP ev c with
    | none => ((runS R ev bg es es.size).1 ++ ⟨#[46]⟩, (runS R ev bg es es.size).2)
    | some k => ((runS R ev bg es es.size).1 ++ ⟨#[46]⟩ ++ (cellOf R (runS R ev bg es es.size).2 k).acts, (cellOf R (runS R ev bg es es.size).2 k).dst) := by
  rw [show (es ++ ⟨#[c]⟩ : ByteArray).size = es.size + 1 by rw [ByteArray.size_append]; rfl]
  simp only [runS]
  rw [runS_pre R ev bg es _ es.size (Nat.le_refl _), byte_last]
  cases colP ev c <;> rfl

theorem conv_one_at (w : World) (n : Nat) (hn : n = w.heap.size) (c : UInt8) :
    Sem.run Try.prog (convert 43 9 (.slice (some ⟨n, 0, none⟩) 1 1)) (w.alloc (.cells #[.int .u8 c.toNat] 5)) = .ok (.string ⟨#[c]⟩) (w.alloc (.cells #[.int .u8 c.toNat] 5)) := by
  subst hn; exact conv_one w c

set_option maxRecDepth 100000 in
set_option maxHeartbeats 1000000 in
theorem steps_walk (s es : ByteArray) (c : UInt8) (hm : s.size ≤ maxLen) (hme : es.size ≤ 200000000000000) (w : World) :
    Calls Try.prog 12 #[.string s, .string es, .int .u8 c.toNat] w fun e w' => e = .returned (.bool true) ∧ Fr (fun _ => False) w w' := by
  have hsz : (es ++ ⟨#[c]⟩ : ByteArray).size = es.size + 1 := by rw [ByteArray.size_append]; rfl
  have HSZ : Hid ((es ++ ⟨#[c]⟩ : ByteArray).size = es.size + 1) := hsz
  have HMX : Hid ((es ++ ⟨#[c]⟩ : ByteArray).size ≤ maxLen) := by show _ ≤ _; rw [hsz]; unfold maxLen; omega
  clear hsz
  go_enter Try.func12, Try.ntmps12
  go_wp2_with fail
  refine (readTableD_any w s hm).mono ?_
  rintro e w1 ⟨ev, bg, va, n, vc, rfl, hfr, hyes⟩
  have hcv := conv_one_at (w1.alloc (.cells #[.string ev, .string bg, .slice va n vc] 58)) (w1.heap.size + 1) (by simp) c
  generalize hes : es ++ (⟨#[c]⟩ : ByteArray) = es2 at *
  have HES : Hid (es ++ (⟨#[c]⟩ : ByteArray) = es2) := hes
  have hfa : Fr (fun _ => False) w ((w1.alloc (.cells #[.string ev, .string bg, .slice va n vc] 58)).alloc (.cells #[.int .u8 c.toNat] 5)) := (hfr.allocr _).allocr _
  by_cases h0 : (rdT s).1 = 0
  · by_cases h4 : (400 : Int) ≤ es.size
    · have hne : ((rdT s).1 != 0) = false := by rw [h0]; rfl
      have HX : Hid (runX s es2 = (⟨#[]⟩, 0, 1, 0)) := runX_long s _ (Or.inr (by rw [HSZ.out]; omega))
      rw [h0]
      clear hyes h0 hne
      go_wp2_with fail
      refine (prun_any _ s es2 hm HMX.out).mono ?_
      rintro e w2 ⟨rfl, hf2⟩
      rw [HX.out]
      go_wp2_with fail
      refine (lawNum_any w2 _).mono ?_
      rintro e w3 ⟨rfl, rfl⟩
      go_wp2_with fail
      go_ret
      exact ⟨rfl, hfa.thenr hf2 (fun _ _ h => h)⟩
    · have h4' : decide ((400 : Int) ≤ es.size) = false := by simpa using h4
      have hes4 : es.size < 400 := by omega
      have hl0 : (ldE s).1 = 0 := by rw [load_eq]; exact h0
      have HX1 : Hid (runX s es = ((runS (formP s).2.2.rows (formP s).2.2.events (formP s).2.2.begin_ es es.size).1, (runS (formP s).2.2.rows (formP s).2.2.events (formP s).2.2.begin_ es es.size).2, 0, 0)) := by
        show _ = _; rw [runX, if_neg (by omega), if_neg (fun h => h hl0)]
      have HX2 : Hid (runX s es2 = ((runS (formP s).2.2.rows (formP s).2.2.events (formP s).2.2.begin_ es2 es2.size).1, (runS (formP s).2.2.rows (formP s).2.2.events (formP s).2.2.begin_ es2 es2.size).2, 0, 0)) := by
        show _ = _; rw [runX, if_neg (by rw [HSZ.out]; omega), if_neg (fun h => h hl0)]
      have HNX : Hid (runS (formP s).2.2.rows (formP s).2.2.events (formP s).2.2.begin_ es2 es2.size = match colP (formP s).2.2.events c with
          | none => ((runS (formP s).2.2.rows (formP s).2.2.events (formP s).2.2.begin_ es es.size).1 ++ ⟨#[46]⟩, (runS (formP s).2.2.rows (formP s).2.2.events (formP s).2.2.begin_ es es.size).2)
          | some k => ((runS (formP s).2.2.rows (formP s).2.2.events (formP s).2.2.begin_ es es.size).1 ++ ⟨#[46]⟩ ++ (cellOf (formP s).2.2.rows (runS (formP s).2.2.rows (formP s).2.2.events (formP s).2.2.begin_ es es.size).2 k).acts, (cellOf (formP s).2.2.rows (runS (formP s).2.2.rows (formP s).2.2.events (formP s).2.2.begin_ es es.size).2 k).dst)) := by
        show _ = _; rw [← HES.out]; exact run_next _ _ _ es c
      obtain ⟨rfl, rfl, hs6, hK, h99, hsd, th, hV, rfl, hth, hlo⟩ := hyes h0
      have HOK : Hid (TbOk (th.map RwH.q) (formP s).2.2.events.size s.size) := by
        show TbOk _ _ _
        rw [hth]
        exact tbOk_of s hK h99 hsd
      have HBG : Hid ((formP s).2.2.begin_.size ≤ s.size) := form_bg s
      have HEV : Hid ((formP s).2.2.events.size ≤ s.size) := form_ev s
      rw [← hth] at HX1 HX2 HNX
      rw [h0]
      clear hyes hsd h0 hl0 hcv
      generalize (formP s).2.2.events = ev at *
      generalize (formP s).2.2.begin_ = bg at *
      have hevs : ev.size ≤ 600000 := by have := HEV.out; omega
      have hbgs : bg.size ≤ 600000 := by have := HBG.out; omega
      obtain ⟨hnb, hsb⟩ := HOK.out.run bg es es.size
      rw [List.length_map] at hnb
      have hmul : es.size * (s.size + 1) ≤ 400 * 600001 := Nat.mul_le_mul (by omega) (by omega)
      have ho1 : (runS (th.map RwH.q) ev bg es es.size).1.size ≤ 1000000000 := by omega
      generalize hr1 : runS (th.map RwH.q) ev bg es es.size = r1 at *
      generalize hr2 : runS (th.map RwH.q) ev bg es2 es2.size = r2 at *
      obtain ⟨o1, n1⟩ := r1
      obtain ⟨o2, n2⟩ := r2
      simp only at hnb ho1 hsb
      have HT0 : Hid (Blk (w1.alloc (.cells #[.string ev, .string bg, .slice va th.length vc] 58)) w1.heap.size #[.string ev, .string bg, .slice va th.length vc] 58) := Blk.new _ _ _
      have HV0 : Hid (DTbV (w1.alloc (.cells #[.string ev, .string bg, .slice va th.length vc] 58)) (.slice va th.length vc) th) := hV.fr (Fr.alloc (fun _ => False) _ _) (fun _ _ h => h)
      have HFR : Hid (Fr (fun _ => False) w (w1.alloc (.cells #[.string ev, .string bg, .slice va th.length vc] 58))) := hfr.allocr _
      clear hV hfr hfa hr1 hr2 hth
      go_wp2_with fail
      have hT0 := HT0.out
      have hV0 := HV0.out
      have hfr0 := HFR.out
      clear HT0 HV0 HFR
      generalize w1.alloc (.cells #[.string ev, .string bg, .slice va th.length vc] 58) = W at hT0 hV0 hfr0 ⊢
      generalize w1.heap.size = tb at hT0 ⊢
      refine (prun_any W s es hm (by unfold maxLen; omega)).mono ?_
      rintro e w2 ⟨rfl, hf2⟩
      rw [HX1.out]
      have hT2 := Blk.fr hT0 hf2 (fun h => h)
      have hV2 := hV0.fr hf2 (fun _ _ h => h)
      have hfr2 := hfr0.thenr hf2 (fun _ _ h => h)
      clear hT0 hV0 hfr0 hf2
      have hcv := conv_one_at w2 w2.heap.size rfl c
      go_wp2_with fail
      refine (prun_any _ s es2 hm HMX.out).mono ?_
      rintro e w3 ⟨rfl, hf3⟩
      rw [HX2.out]
      have hT3 := Blk.fr (Blk.alloc hT2 _) hf3 (fun h => h)
      have hV3 := (hV2.fr (Fr.alloc (fun _ => False) _ _) (fun _ _ h => h)).fr hf3 (fun _ _ h => h)
      have hfr3 := (hfr2.allocr _).thenr hf3 (fun _ _ h => h)
      clear hT2 hV2 hfr2 hf3 hcv
      have t2 : w3.cell? ⟨tb, 2, none⟩ = some (.slice va th.length vc) := by rw [Blk.cell hT3]; rfl
      have hnb' : decide (th.length ≤ n1) = false := by simp; omega
      go_wp2_with fail
      refine (lawNum_any w3 _).mono ?_
      rintro e w4 ⟨rfl, rfl⟩
      go_wp2_with fail
      refine (lawNum_any w4 _).mono ?_
      rintro e w3 ⟨rfl, rfl⟩
      go_wp2_with fail
      refine (cells_any _ tb ev bg _ th hT3 hV3 ev.size s.size HOK.out n1 hnb).mono ?_
      rintro e w5 ⟨hf5, ca, cc, rfl, hrow⟩
      have hT5 := Blk.fr hT3 hf5 (fun h => h)
      have hfr5 := hfr3.thenr hf5 (fun _ _ h => h)
      have hrow5 := row_fr hrow hf5 (fun _ _ h => h)
      clear hT3 hV3 hfr3 hrow hf5 t2
      go_wp2_with fail
      go_loopw [23] (fun vk wr => ∃ k : Nat, k ≤ ev.size ∧ vk = .int .i64 k ∧ Hid (∀ i, i < k → colB ev c i = false) ∧ Fr (fun _ => False) w5 wr) (fun vk _ => ev.size - (intOf vk).toNat)
      case atStart => exact ⟨0, Nat.zero_le _, rfl, fun i hi => (by omega), Fr.refl _ _⟩
      case round =>
        obtain ⟨k, hk, rfl, HJ, hf6⟩ := hrel
        have hT6 := Blk.fr hT5 hf6 (fun h => h)
        have hfr6 := hfr5.thenr hf6 (fun _ _ h => h)
        have hrow6 := row_fr hrow5 hf6 (fun _ _ h => h)
        have t0 : wr.cell? ⟨tb, 0, none⟩ = some (.string ev) := by rw [Blk.cell hT6]; rfl
        by_cases hkl : (k : Int) < ev.size
        · have hkl' : k < ev.size := by omega
          have HE2 : Hid (byte ev k = ev[k]) := byte_in ev k hkl'
          by_cases he : byte ev k = c
          · have hcol : colP ev c = some k := firstB_some (colB ev c) k (by simp [colB, he]) HJ.out _ hkl'
            have hn := HNX.out
            rw [hcol] at hn
            injection hn with hn1 hn2
            subst hn1
            subst hn2
            have he1 : ((ev[k].toNat : Int) == c.toNat) = true := by rw [beq_iff_eq, ← HE2.out, he]
            obtain ⟨hce, hcd, hca⟩ := HOK.out.cell (n := n1) (k := k) (by rw [List.length_map]; exact hnb) hkl'
            obtain ⟨ge, ce, hcv, -⟩ := row_form hrow6 (by omega)
            injection hcv with v1 v2 v3
            subst v1
            subst v3
            clear v2
            have e0 := (row_cell hrow6 (k * 2 + 0) _ (by rw [flat_get clD 2 clD_len _ k 0 _ hce (by omega)]; rfl)).1
            have e1 := (row_cell hrow6 (k * 2 + 1) _ (by rw [flat_get clD 2 clD_len _ k 1 _ hce (by omega)]; rfl)).1
            rw [Nat.add_zero] at e0
            have hca' : (cellOf (th.map RwH.q) n1 k).acts.size ≤ 600000 := by omega
            have HS1 : Hid ((o1 ++ ⟨#[46]⟩ : ByteArray).size = o1.size + 1) := by show _ = _; rw [ByteArray.size_append]; rfl
            have ho2 : (o1 ++ ⟨#[46]⟩ : ByteArray).size ≤ 2000000000 := by have := HS1.out; omega
            clear hcol he hce HX1 HX2 HNX
            generalize cellOf (th.map RwH.q) n1 k = cx at *
            go_wp2_with fail
            go_ret
            exact ⟨rfl, hfr6⟩
          · have HC : Hid (colB ev c k = false) := by show _ = _; simp [colB, he]
            have he1 : ((ev[k].toNat : Int) == c.toNat) = false := by
              rw [beq_eq_false_iff_ne]; intro h; exact he (by rw [HE2.out]; exact UInt8.toNat_inj.1 (by omega))
            clear he
            go_wp2_with fail
            first
              | (go_roundw
                 case rel => exact ⟨k + 1, by omega, by go_num, below_step HJ.out HC.out, hf6⟩
                 case measure => simp [intOf]; omega)
              | (go_big_quiet (fail)
                 go_wp2_with fail
                 go_roundw
                 case rel => exact ⟨k + 1, by omega, by go_num, below_step HJ.out HC.out, hf6.drewNr _⟩
                 case measure => simp [intOf]; omega)
        · have hcol : colP ev c = none := firstB_none (colB ev c) _ (fun i hi => HJ.out i (by omega))
          have hn := HNX.out
          rw [hcol] at hn
          injection hn with hn1 hn2
          subst hn1
          subst hn2
          have hkd : decide (k < ev.size) = false := by simp; omega
          clear hcol HX1 HX2 HNX
          go_wp2_with fail
          go_ret
          exact ⟨rfl, hfr6⟩
  · have hne : ((rdT s).1 != 0) = true := by rw [bne_iff_ne]; exact h0
    have hne0 : ((rdT s).1 == 0) = false := by rw [beq_eq_false_iff_ne]; exact h0
    by_cases h4 : (400 : Int) ≤ es.size
    · have HX : Hid (runX s es2 = (⟨#[]⟩, 0, 1, 0)) := runX_long s _ (Or.inr (by rw [HSZ.out]; omega))
      clear hyes h0
      go_wp2_with fail
      refine (prun_any _ s es2 hm HMX.out).mono ?_
      rintro e w2 ⟨rfl, hf2⟩
      rw [HX.out]
      go_wp2_with fail
      refine (lawNum_any w2 _).mono ?_
      rintro e w3 ⟨rfl, rfl⟩
      go_wp2_with fail
      go_ret
      exact ⟨rfl, hfa.thenr hf2 (fun _ _ h => h)⟩
    · have h4' : decide ((400 : Int) ≤ es.size) = false := by simpa using h4
      have HX : Hid (runX s es2 = (⟨#[]⟩, 0, (rdT s).1, (rdT s).2)) := by
        show _ = _; rw [runX, if_neg (by rw [HSZ.out]; omega), if_pos (by rw [load_eq]; exact h0), load_eq]
      clear hyes h0
      go_wp2_with fail
      refine (prun_any _ s es2 hm HMX.out).mono ?_
      rintro e w2 ⟨rfl, hf2⟩
      rw [HX.out]
      go_wp2_with fail
      refine (lawNum_any w2 _).mono ?_
      rintro e w3 ⟨rfl, rfl⟩
      go_wp2_with fail
      refine (lawNum_any _ _).mono ?_
      rintro e w3 ⟨rfl, rfl⟩
      go_wp2_with fail
      go_ret
      exact ⟨rfl, hfa.thenr hf2 (fun _ _ h => h)⟩
end Go.Proofs.Ytmolmbeeoecnfaa
