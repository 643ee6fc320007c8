/- Own work: the law Reached: its walk, its row, its card. -/
import Derived.Test.YtmolmbeeoecnfabDoorQ26
import Derived.Test.YtmolmbeeoecnfabDoorQ44
import Derived.Test.YtmolmbeeoecnfabDoorQ46
import Derived.Test.YtmolmbeeoecnfabDoorCards
import Derived.Test.YtmolmbeeoecnfabDoorTie
/- Own work: the walk of the law Reached, and its row. -/
namespace Go.Proofs.YtmolmbeeoecnfabDoor
open Go.RowKit Go.BigFrame
set_option linter.unusedVariables false
set_option linter.unusedSimpArgs false

theorem knL_le : ∀ (C : List Cl) (n m : Nat), knL n C = some m → n ≤ m
  | [], n, m, h => by simp only [knL, Option.some.injEq] at h; omega
  | c :: C, n, m, h => by
    simp only [knL, knC] at h
    split at h
    · rename_i a ha
      split at ha
      · cases ha
      · simp only [Option.some.injEq] at ha
        have := knL_le C a m h
        split at ha <;> omega
    · cases h
theorem knL_step {n m : Nat} {c : Cl} {C : List Cl} (h : knL n (c :: C) = some m) : ¬ n < c.dst ∧ knL (if c.dst = n then n + 1 else n) C = some m := by
  simp only [knL, knC] at h
  by_cases hd : n < c.dst
  · rw [if_pos hd] at h; cases h
  · rw [if_neg hd] at h; exact ⟨hd, h⟩
theorem knR_step {i n L : Nat} {C : List Cl} {r : List (List Cl)} (h : knR i n (C :: r) = some L) : i < n ∧ ∃ m, knL n C = some m ∧ knR (i + 1) m r = some L := by
  simp only [knR] at h
  by_cases hd : n ≤ i
  · rw [if_pos hd] at h; cases h
  · rw [if_neg hd] at h
    cases hk : knL n C with
    | none => rw [hk] at h; cases h
    | some m => rw [hk] at h; exact ⟨by omega, m, rfl, h⟩
theorem knR_le : ∀ (r : List (List Cl)) (i n L : Nat), knR i n r = some L → n ≤ L
  | [], i, n, L, h => by simp only [knR, Option.some.injEq] at h; omega
  | C :: r, i, n, L, h => by
    obtain ⟨-, m, h1, h2⟩ := knR_step h
    have := knL_le C n m h1
    have := knR_le r _ m L h2
    omega

set_option maxRecDepth 100000 in
set_option maxHeartbeats 1000000 in
theorem reached_walk (H : Nat) (T : World → Prop) (hI : ItO H T) (w : World) (hT : T w) (hH : H ≤ w.heap.size) (s : ByteArray) (rows : Int) (hm : s.size ≤ maxLen) (hr : -9223372036854775808 ≤ rows ∧ rows ≤ 9223372036854775807) :
    Calls Tryd.prog 5 #[.string s, .int .i64 rows] w fun e w' => e = .returned (.bool true) ∧ Fr (fun _ => False) w w' := by
  have HC : Hid _ := pcompile_any H T hI w s rows hm hT hH hr
  clear hI hT hH hr
  have hbad : ∀ (E P : Int), cpV s rows = .tuple #[.string ⟨#[]⟩, .int .i64 E, .int .i64 P] → E ≠ 0 → Calls Tryd.prog 5 #[.string s, .int .i64 rows] w fun e w' => e = .returned (.bool true) ∧ Fr (fun _ => False) w w' := by
    intro E P hv hE
    have HV : Hid (cpV s rows = .tuple #[.string ⟨#[]⟩, .int .i64 E, .int .i64 P]) := hv
    have hne : (E != 0) = true := by simpa using hE
    clear hv hE
    go_enter Tryd.func5, Tryd.ntmps5
    go_wp2_with fail
    refine Calls.mono HC.out ?_
    rintro e w1 ⟨rfl, hf1⟩
    rw [HV.out]
    go_wp2_with fail
    refine (lawNum_any _ _).mono ?_
    rintro e w2 ⟨rfl, rfl⟩
    go_wp2_with fail
    go_ret
    exact ⟨rfl, hf1⟩
  by_cases h0 : (unE s).1 = 0
  · cases hc : cpS s rows with
    | none => exact hbad 7 0 (by rw [cpV, if_pos h0, hc]) (by decide)
    | some t =>
      clear hbad
      obtain ⟨l, Cs, hN⟩ := cpS_all h0 hc
      have HV : Hid (cpV s rows = .tuple #[.string t, .int .i64 0, .int .i64 0]) := by show _ = _; rw [cpV, if_pos h0, hc]
      have hmt : t.size ≤ maxLen := by have := hN.ct.size; unfold maxLen; omega
      have HRD : Hid (rdT t = (0, 0)) := hN.ct.rd
      have HN : Hid (CpN s rows t l Cs) := hN
      clear hc h0 hN
      go_enter Tryd.func5, Tryd.ntmps5
      go_wp2_with fail
      refine Calls.mono HC.out ?_
      rintro e w1 ⟨rfl, hf1⟩
      rw [HV.out]
      go_wp2_with fail
      refine (lawNum_any _ _).mono ?_
      rintro e w2 ⟨rfl, rfl⟩
      go_wp2_with fail
      refine (readTableD_any _ t hmt).mono ?_
      rintro e w3 ⟨ev, bg, va, n, vc, rfl, hf3, hyes⟩
      obtain ⟨rfl, rfl, hs6, hK, h99, hsd, th, hV, rfl, hth, -⟩ := hyes (by rw [HRD.out])
      have HOK : Hid (TbOk (th.map RwH.q) (formP t).2.2.events.size t.size) := by
        show TbOk _ _ _
        rw [hth]
        exact tbOk_of t hK h99 hsd
      have hlen : th.length = l.length := by rw [← HN.out.ct.len.1, ← hth, List.length_map]
      have hL99 : th.length ≤ 99 := by have h9 := congrArg List.length hth; rw [List.length_map] at h9; rw [h9]; exact h99
      have HCL : Hid (Cs.length = th.length) := by show _ = _; rw [HN.out.ct.ct.len, hlen]
      have HCE : Hid (∀ (i : Nat) (C : List Cl), Cs[i]? = some C → cellsOf (th.map RwH.q) i = C) := fun i C hC => by
        rw [hth]
        obtain ⟨-, -, -, p, f4⟩ := HN.out.ct.form
        rw [f4]
        exact HN.out.ct.ct.cells_of (un_dd s).1 (un_dga s) (limOf_le rows) p hC
      have HKN : Hid (knR 0 1 Cs = some th.length) := by show _ = _; rw [hlen]; exact HN.out.kn
      have hle : decide (rows < (th.length : Int)) = false := by have := HN.out.le; rw [hlen]; simpa using this
      have hev : (formP t).2.2.events.size ≤ 26 := by obtain ⟨-, f2, -⟩ := HN.out.ct.form; rw [f2]; exact evS_size _
      rw [HRD.out]
      have hf4 := hf1.thenr hf3 (fun _ _ h => h)
      clear hyes hsd hth hlen hf1 hf3 HN HV HC HRD hK h99 hs6
      generalize (formP t).2.2.events = ev at *
      generalize (formP t).2.2.begin_ = bg at *
      have HT : Hid (Blk (w3.alloc (.cells #[.string ev, .string bg, .slice va th.length vc] 36)) w3.heap.size #[.string ev, .string bg, .slice va th.length vc] 36) := Blk.new _ _ _
      have HVV : Hid (DTbV (w3.alloc (.cells #[.string ev, .string bg, .slice va th.length vc] 36)) (.slice va th.length vc) th) := hV.fr (Fr.alloc (fun _ => False) _ _) (fun _ _ h => h)
      have HFR : Hid (Fr (fun _ => False) w (w3.alloc (.cells #[.string ev, .string bg, .slice va th.length vc] 36))) := hf4.allocr _
      have t2 : (w3.alloc (.cells #[.string ev, .string bg, .slice va th.length vc] 36)).cell? ⟨w3.heap.size, 2, none⟩ = some (.slice va th.length vc) := by rw [Blk.cell HT.out]; rfl
      clear hV hf4
      go_wp2_with fail
      have hT0 := HT.out
      have hV0 := HVV.out
      have hfr0 := HFR.out
      clear HT HVV HFR t2
      generalize w3.alloc (.cells #[.string ev, .string bg, .slice va th.length vc] 36) = W at hT0 hV0 hfr0 ⊢
      generalize w3.heap.size = tb at hT0 ⊢
      go_loopw [11, 12] (fun vn vi wr => ∃ i n : Nat, i ≤ th.length ∧ vi = .int .i64 i ∧ vn = .int .i64 n ∧ Hid (knR i n (Cs.drop i) = some th.length) ∧ Fr (fun _ => False) w wr ∧ Blk wr tb #[.string ev, .string bg, .slice va th.length vc] 36 ∧ DTbV wr (.slice va th.length vc) th) (fun _ vi _ => th.length - (intOf vi).toNat)
      case atStart => exact ⟨0, 1, Nat.zero_le _, rfl, rfl, HKN.out, hfr0, hT0, hV0⟩
      case round =>
        clear hfr0 hT0 hV0
        obtain ⟨i, n, hi, rfl, rfl, HK, hfr, hT, hV⟩ := hrel
        have t2 : wr.cell? ⟨tb, 2, none⟩ = some (.slice va th.length vc) := by rw [Blk.cell hT]; rfl
        by_cases hlt : (i : Int) < th.length
        · have hlt' : i < th.length := by omega
          obtain ⟨C, hC⟩ : ∃ C, Cs[i]? = some C := ⟨_, List.getElem?_eq_getElem (by rw [HCL.out]; exact hlt')⟩
          have hdr : Cs.drop i = C :: Cs.drop (i + 1) := by
            rw [List.drop_eq_getElem_cons (by rw [HCL.out]; exact hlt')]
            congr 1
            exact (List.getElem?_eq_some_iff.1 hC).2
          have hk0 := HK.out
          rw [hdr] at hk0
          obtain ⟨hin, m', hk1, hk2⟩ := knR_step hk0
          have HK1 : Hid (knL n C = some m') := hk1
          have HK2 : Hid (knR (i + 1) m' (Cs.drop (i + 1)) = some th.length) := hk2
          have hm1 := knR_le _ _ _ _ hk2
          have hce := HCE.out i C hC
          have hcl : C.length = ev.size := by
            have := (HOK.out.cells (n := i) (by rw [List.length_map]; exact hlt')).1
            rw [hce] at this; exact this
          have hd1 : decide ((n : Int) ≤ (i : Int)) = false := by simp; omega
          have hd2 : decide (n ≤ i) = false := by simp; omega
          have HCLN : Hid (C.length = ev.size) := hcl
          have HCED : Hid (cellsOf (th.map RwH.q) i = C) := hce
          clear hdr hk0 hk1 hk2 HK hC hcl hce
          go_wp2_with fail
          refine (dcells_any _ tb ev bg _ th hT hV ev.size t.size HOK.out i hlt').mono ?_
          rintro e w4 ⟨hf5, ca, cc, rfl, hrow⟩
          have hT2 := Blk.fr hT hf5 (fun h => h)
          have hV2 := hV.fr hf5 (fun _ _ h => h)
          have hfr2 := hfr.thenr hf5 (fun _ _ h => h)
          have hrow2 := row_fr hrow hf5 (fun _ _ h => h)
          rw [HCED.out] at hrow2
          clear hT hV hfr hrow hf5 t2 HCED
          go_wp2_with fail
          go_loopw [11, 14] (fun vn vk wr => ∃ k m : Nat, k ≤ ev.size ∧ vk = .int .i64 k ∧ vn = .int .i64 m ∧ Hid (knL m (C.drop k) = some m') ∧ Fr (fun _ => False) w4 wr) (fun _ vk _ => ev.size - (intOf vk).toNat)
          case atStart => exact ⟨0, n, Nat.zero_le _, rfl, rfl, HK1.out, Fr.refl _ _⟩
          case round =>
            obtain ⟨k, m, hk, rfl, rfl, HM, hf6⟩ := hrel
            have hT3 := Blk.fr hT2 hf6 (fun h => h)
            have hV3 := hV2.fr hf6 (fun _ _ h => h)
            have hfr3 := hfr2.thenr hf6 (fun _ _ h => h)
            have hrow3 := row_fr hrow2 hf6 (fun _ _ h => h)
            by_cases hkl : (k : Int) < ev.size
            · have hkl' : k < ev.size := by omega
              obtain ⟨c, hcc⟩ : ∃ c, C[k]? = some c := ⟨_, List.getElem?_eq_getElem (by rw [HCLN.out]; exact hkl')⟩
              have hdr : C.drop k = c :: C.drop (k + 1) := by
                rw [List.drop_eq_getElem_cons (by rw [HCLN.out]; exact hkl')]
                congr 1
                exact (List.getElem?_eq_some_iff.1 hcc).2
              have hk0 := HM.out
              rw [hdr] at hk0
              have hmm := knL_le _ _ _ hk0
              obtain ⟨hnd, hk1⟩ := knL_step hk0
              obtain ⟨ge, ce, hcv, -⟩ := row_form hrow3 (by omega)
              injection hcv with v1 v2 v3
              subst v1
              subst v3
              clear v2
              have e0 := (row_cell hrow3 (k * 2 + 0) _ (by rw [flat_get clD 2 clD_len _ k 0 _ hcc (by omega)]; rfl)).1
              rw [Nat.add_zero] at e0
              clear hdr hk0 hcc HM
              obtain ⟨d, ca⟩ := c
              simp only at e0 hnd hk1
              have hd1 : decide ((m : Int) < (d : Int)) = false := by simp; omega
              have hd2 : decide (m < d) = false := by simp; omega
              by_cases hdm : d = m
              · subst hdm
                rw [if_pos rfl] at hk1
                have HK3 : Hid (knL (d + 1) (C.drop (k + 1)) = some m') := hk1
                clear hk1
                go_wp2_with fail
                go_roundw
                case rel => exact ⟨k + 1, d + 1, by omega, by go_num, by go_num, HK3.out, hf6⟩
                case measure => simp [intOf]; omega
              · rw [if_neg hdm] at hk1
                have HK3 : Hid (knL m (C.drop (k + 1)) = some m') := hk1
                have hq1 : ((d : Int) == (m : Int)) = false := by simp; omega
                have hq2 : ¬ (d : Int) = (m : Int) := by omega
                clear hk1
                go_wp2_with fail
                go_roundw
                case rel => exact ⟨k + 1, m, by omega, by go_num, rfl, HK3.out, hf6⟩
                case measure => simp [intOf]; omega
            · have hkd : decide (k < ev.size) = false := by simp; omega
              have hke : C.drop k = [] := List.drop_eq_nil_iff.2 (by rw [HCLN.out]; omega)
              have hm2 := HM.out
              rw [hke] at hm2
              simp only [knL, Option.some.injEq] at hm2
              subst hm2
              clear hke HM
              go_wp2_with fail
              go_roundw
              case rel => exact ⟨i + 1, m, by omega, by go_num, rfl, HK2.out, hfr3, hT3, hV3⟩
              case measure => simp [intOf]; omega
        · have hie : i = th.length := by omega
          subst hie
          have hke : Cs.drop th.length = [] := List.drop_eq_nil_iff.2 (by rw [HCL.out]; exact Nat.le_refl _)
          have hm2 := HK.out
          rw [hke] at hm2
          simp only [knR, Option.some.injEq] at hm2
          subst hm2
          clear hke HK
          go_wp2_with fail
          go_ret
          exact ⟨rfl, hfr⟩
  · exact hbad _ _ (by rw [cpV, if_neg h0]) (by omega)

open Go.ChangeShapes Go.WideShapes Go.ChangeAt
open Go.ChangeMaps (open_string shut_string)

set_option maxRecDepth 100000 in
theorem reached_lifted (os : Os) (started : os.Started) (H : Type) (enc : TypeId × Value → H) :
    ReturnsInHanded {} Tryd.checked os 5 .any (fun w args => (Rows.reachedSpec.pre enc Tryd.prog Tryd.f5 [] false w args ∧ laidMetH Tryd.prog laidL w) ∧ sizedMet enc Tryd.prog Tryd.f5 (OpenSpec.ofChange Rows.reachedSpec) false w args)
      (Rows.reachedSpec.post enc Tryd.prog Tryd.f5 false true false false) := by
  refine returnsInHanded_of_change_and (C := Tryd.checked) (X := fun w _ => laidMetH Tryd.prog laidL w) (fun _ _ _ hh h => h.of_heap hh) own_knob started (by kernel_rfl) Tryd.func5
    (ChangeSpec.witness_at (enc := enc) (C := Tryd.checked) (os := os) (X := fun w _ => laidMetH Tryd.prog laidL w) false (laidWorld os) #[.string ByteArray.empty, .int .i64 0] 8 rfl (by kernel_rfl) (by kernel_rfl) (by kernel_rfl) (by kernel_rfl) (by kernel_rfl) (laidWorld_met os _)) ?_
  intro W base args ds gs before hval0 hW _ _ hL _
  have hval : ∀ (j : Nat) t v, Tryd.f5.params[j]? = some t → args[j]? = some v → Value.okWide Tryd.prog W .any base t v := hval0
  have hW' := hW
  obtain ⟨p, q, hA0, hV, rfl, hfz, hnd⟩ := hW
  have hA : DataW.TrodAll enc Tryd.prog W 0 (fun _ => true) true Tryd.f5.params.toList args.toList ds p := hA0
  rw [Tryd.params5] at hA hval
  obtain ⟨v0, vs0, d0, ds0, p0, q0, hargs, rfl, rfl, h0, r0⟩ := trodAll_cons hA
  obtain ⟨v1, vs1, d1, ds1, p1, q1, hargs1, rfl, rfl, h1, r1⟩ := trodAll_cons r0
  obtain ⟨rfl, rfl, rfl⟩ := trodAll_nil r1
  obtain rfl : args = #[v0, v1] := by cases args; simp_all
  obtain ⟨rfl, rfl⟩ := trodVars_none hV
  obtain ⟨a0, rfl, rfl, rfl, w0⟩ := open_string Tryd.underlying9 (hval 0 9 v0 rfl rfl) h0
  obtain ⟨a1, rfl, rfl, rfl, w1⟩ := open_int Tryd.underlying3 (hval 1 3 v1 rfl rfl) h1
  clear hA0 hval0
  simp only [List.append_nil] at hW'
  obtain ⟨H0, hI, hH0⟩ := itO_of W (tabW_of hL)
  refine (reached_walk H0 TabW hI W (tabW_of hL) hH0 a0 a1 w0 (i64_bd w1)).mono fun e W' ⟨he, hg⟩ => ?_
  subst he
  have hB : Below W.heap.size W W' := hg.below W.heap.size (Nat.le_refl _) (fun _ h => h.elim)
  refine ⟨_, rfl, _, _, _, [], [], [], hW', ?_, ?_, ?_, hB.frame _, fun h => by cases h⟩
  · exact trodAll_cons_mk (shut_bool Tryd.underlying4 _) trodAll_mk0
  · exact trodAll_cons_mk (shut_string Tryd.underlying9 w0) (trodAll_cons_mk (shut_int Tryd.underlying3 w1) trodAll_mk0)
  · rfl

theorem reached_over : Rows.reachedRow.holds Tryd.pinned (OpenSpec.ofChange Rows.reachedSpec) :=
  OpenClaim.holds_of_wide 5 Tryd.f5 rfl rfl rfl rfl rfl rfl rfl ⟨rfl, rfl, rfl, rfl, rfl⟩ rfl rfl rfl rfl rfl (by kernel_rfl) Tryd.func5 (by kernel_rfl)
    (of_decide_eq_true (by kernel_rfl)) (by unfold Func.isWrapper; first | (rw [if_pos (by decide +kernel)]; kernel_rfl) | (rw [if_neg (by decide +kernel)]; exact ⟨rfl, rfl⟩))
    (fun os started H enc _ => reached_lifted os started H enc)
end Go.Proofs.YtmolmbeeoecnfabDoor

/- Own work: the statement on Reached, tied: proved. -/
namespace Go.Proofs.YtmolmbeeoecnfabDoor
open Go

theorem reached_card : Rows.ReachedCardSaid :=
  Claim7.holds_tied_plain_at .later [] [.data, .data, .data] true _ false
    reached_over (fun _ h => by cases h) (by kernel_rfl) (fun _ h => by cases h) reached_row_tie rfl ⟨rfl, rfl⟩ (by kernel_rfl) rfl
    (fun f fn hf hfn => by
      obtain rfl : f = 5 := Option.some.inj ((show Tryd.prog.funcNamed "chart/chartlaw.Reached" = some 5 by kernel_rfl).symm.trans hf) |>.symm
      obtain rfl : fn = Tryd.f5 := (Option.some.inj (Tryd.func5.symm.trans hfn)).symm
      exact ⟨by kernel_rfl, fun j t ht => by
        rw [Tryd.params5] at ht
        have h3 : t = 9 ∨ t = 3 := by
          rcases j with _ | _ | j <;> simp at ht <;> simp [← ht]
        rcases h3 with rfl | rfl
        · exact (show Tryd.prog.wantsStandIn 9 = false by kernel_rfl)
        · exact (show Tryd.prog.wantsStandIn 3 = false by kernel_rfl)⟩)
    (by kernel_rfl)
#print axioms reached_card
end Go.Proofs.YtmolmbeeoecnfabDoor
