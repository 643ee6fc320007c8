/- Own work: the law Limit: its walk, its row, its card. -/
import Derived.Test.YtmolmbeeoecnfabDoorQ26
import Derived.Test.YtmolmbeeoecnfabDoorQ44
import Derived.Test.YtmolmbeeoecnfabDoorCards
import Derived.Test.YtmolmbeeoecnfabDoorTie
/- Own work: the walk of the law Limit, and its row. -/
namespace Go.Proofs.YtmolmbeeoecnfabDoor
open Go.RowKit Go.BigFrame
set_option linter.unusedVariables false
set_option linter.unusedSimpArgs false

set_option maxRecDepth 100000 in
set_option maxHeartbeats 1000000 in
theorem limit_walk (H : Nat) (T : World → Prop) (hI : ItO H T) (w : World) (hT : T w) (hH : H ≤ w.heap.size) (s : ByteArray) (rows more : Int) (hm : s.size ≤ maxLen) (hr : -9223372036854775808 ≤ rows ∧ rows ≤ 9223372036854775807) (hmo : -9223372036854775808 ≤ more ∧ more ≤ 9223372036854775807) :
    Calls Tryd.prog 6 #[.string s, .int .i64 rows, .int .i64 more] w fun e w' => e = .returned (.bool true) ∧ Fr (fun _ => False) w w' := by
  have HC : Hid (∀ (w1 : World) (r : Int), Fr (fun _ => False) w w1 → (-9223372036854775808 ≤ r ∧ r ≤ 9223372036854775807) → Calls Tryd.prog 7 #[.string s, .int .i64 r] w1 fun e w' => e = .returned (cpV s r) ∧ Fr (fun _ => False) w1 w') := fun w1 r hf hr => pcompile_any H T hI w1 s r hm (hI.keep w w1 _ hT hf (fun _ h => h.elim)) (by have := hf.size; omega) hr
  have HR : Hid (-9223372036854775808 ≤ rows ∧ rows ≤ 9223372036854775807) := hr
  have HM : Hid (-9223372036854775808 ≤ more ∧ more ≤ 9223372036854775807) := hmo
  clear hI hT hH hr hmo
  by_cases h0 : (unE s).1 = 0
  · have HE : Hid (((unE s).1 : Int) = 0) := by show _ = _; omega
    have hnone : ∀ r, cpS s r = none → cpV s r = .tuple #[.string ⟨#[]⟩, .int .i64 7, .int .i64 0] := fun r h => by rw [cpV, if_pos h0, h]
    have hsome : ∀ r t, cpS s r = some t → cpV s r = .tuple #[.string t, .int .i64 0, .int .i64 0] := fun r t h => by rw [cpV, if_pos h0, h]
    cases hc : cpS s rows with
    | none =>
      have HV : Hid (cpV s rows = .tuple #[.string ⟨#[]⟩, .int .i64 7, .int .i64 0]) := hnone _ hc
      by_cases hg : rows < more
      · obtain ⟨u, f, hvm⟩ : ∃ u f, cpV s more = .tuple #[.string u, .int .i64 f, .int .i64 0] := by
          cases hcm : cpS s more with
          | none => exact ⟨_, _, hnone _ hcm⟩
          | some t => exact ⟨_, _, hsome _ _ hcm⟩
        have HVM : Hid (cpV s more = .tuple #[.string u, .int .i64 f, .int .i64 0]) := hvm
        have hdg : decide (rows < more) = true := by simpa using hg
        clear hnone hsome hvm hc h0 hg
        go_enter Tryd.func6, Tryd.ntmps6
        go_wp2_with fail
        refine Calls.mono (HC.out w rows (Fr.refl _ _) HR.out) ?_
        rintro e w1 ⟨rfl, hf1⟩
        rw [HV.out]
        go_wp2_with fail
        refine Calls.mono (HC.out w1 more hf1 HM.out) ?_
        rintro e w2 ⟨rfl, hf2⟩
        rw [HVM.out]
        have hf3 := hf1.thenr hf2 (fun _ _ h => h)
        clear hf1 hf2
        go_wp2_with fail
        refine (lawNum_any _ _).mono ?_
        rintro e w3 ⟨rfl, rfl⟩
        go_wp2_with fail
        refine (pcheck_any _ s hm).mono ?_
        rintro e w4 ⟨rfl, hf4⟩
        rw [HE.out]
        have hf5 := hf3.thenr hf4 (fun _ _ h => h)
        clear hf3 hf4
        go_wp2_with fail
        refine (lawNum_any _ _).mono ?_
        rintro e w5 ⟨rfl, rfl⟩
        go_wp2_with fail
        refine (lawNum_any _ _).mono ?_
        rintro e w6 ⟨rfl, rfl⟩
        go_wp2_with fail
        go_ret
        exact ⟨rfl, hf5⟩
      · have HVM : Hid (cpV s more = .tuple #[.string ⟨#[]⟩, .int .i64 7, .int .i64 0]) := hnone _ (cpS_none h0 hc (by omega))
        have hdg : decide (rows < more) = false := by simpa using hg
        clear hnone hsome hc h0 hg
        go_enter Tryd.func6, Tryd.ntmps6
        go_wp2_with fail
        refine Calls.mono (HC.out w rows (Fr.refl _ _) HR.out) ?_
        rintro e w1 ⟨rfl, hf1⟩
        rw [HV.out]
        go_wp2_with fail
        refine Calls.mono (HC.out w1 more hf1 HM.out) ?_
        rintro e w2 ⟨rfl, hf2⟩
        rw [HVM.out]
        have hf3 := hf1.thenr hf2 (fun _ _ h => h)
        clear hf1 hf2
        go_wp2_with fail
        refine (lawNum_any _ _).mono ?_
        rintro e w3 ⟨rfl, rfl⟩
        go_wp2_with fail
        refine (pcheck_any _ s hm).mono ?_
        rintro e w4 ⟨rfl, hf4⟩
        rw [HE.out]
        have hf5 := hf3.thenr hf4 (fun _ _ h => h)
        clear hf3 hf4
        go_wp2_with fail
        refine (lawNum_any _ _).mono ?_
        rintro e w5 ⟨rfl, rfl⟩
        go_wp2_with fail
        refine (lawNum_any _ _).mono ?_
        rintro e w6 ⟨rfl, rfl⟩
        go_wp2_with fail
        refine (lawNum_any _ _).mono ?_
        rintro e w7 ⟨rfl, rfl⟩
        go_wp2_with fail
        go_ret
        exact ⟨rfl, hf5⟩
    | some t =>
      obtain ⟨l, Cs, hN⟩ := cpS_all h0 hc
      have HV : Hid (cpV s rows = .tuple #[.string t, .int .i64 0, .int .i64 0]) := hsome _ _ hc
      have hmt : t.size ≤ maxLen := by have := hN.ct.size; unfold maxLen; omega
      have HRD : Hid (rdT t = (0, 0)) := hN.ct.rd
      have HLN : Hid ((formP t).2.2.rows.length = l.length) := hN.ct.len.1
      generalize hL : l.length = L at *
      have hle : decide (rows < (L : Int)) = false := by have := hN.le; rw [hL] at this; simpa using this
      by_cases hg : (L : Int) ≤ more
      · have HVM : Hid (cpV s more = .tuple #[.string t, .int .i64 0, .int .i64 0]) := hsome _ _ (hN.yes more (by rw [hL]; exact hg))
        have hdg : decide ((L : Int) ≤ more) = true := by simpa using hg
        clear hnone hsome hc h0 hg hN hL
        go_enter Tryd.func6, Tryd.ntmps6
        go_wp2_with fail
        refine Calls.mono (HC.out w rows (Fr.refl _ _) HR.out) ?_
        rintro e w1 ⟨rfl, hf1⟩
        rw [HV.out]
        go_wp2_with fail
        refine Calls.mono (HC.out w1 more hf1 HM.out) ?_
        rintro e w2 ⟨rfl, hf2⟩
        rw [HVM.out]
        have hf3 := hf1.thenr hf2 (fun _ _ h => h)
        clear hf1 hf2
        go_wp2_with fail
        refine (lawNum_any _ _).mono ?_
        rintro e w3 ⟨rfl, rfl⟩
        go_wp2_with fail
        refine (readTableD_any _ t hmt).mono ?_
        rintro e w4 ⟨ev, bg, va, n, vc, rfl, hf4, hyes⟩
        obtain ⟨-, -, -, -, -, -, th, -, rfl, hth, -⟩ := hyes (by rw [HRD.out])
        have hn : th.length = L := by rw [← HLN.out, ← hth, List.length_map]
        rw [hn, HRD.out]
        clear hth hn hyes
        have hf5 := hf3.thenr hf4 (fun _ _ h => h)
        clear hf3 hf4
        go_wp2_with fail
        refine (lawNum_any _ _).mono ?_
        rintro e w5 ⟨rfl, rfl⟩
        go_wp2_with fail
        go_ret
        exact ⟨rfl, hf5.allocr _⟩
      · have HVM : Hid (cpV s more = .tuple #[.string ⟨#[]⟩, .int .i64 7, .int .i64 0]) := hnone _ (hN.no more (by rw [hL]; omega))
        have hdg : decide ((L : Int) ≤ more) = false := by simpa using hg
        clear hnone hsome hc h0 hg hN hL
        go_enter Tryd.func6, Tryd.ntmps6
        go_wp2_with fail
        refine Calls.mono (HC.out w rows (Fr.refl _ _) HR.out) ?_
        rintro e w1 ⟨rfl, hf1⟩
        rw [HV.out]
        go_wp2_with fail
        refine Calls.mono (HC.out w1 more hf1 HM.out) ?_
        rintro e w2 ⟨rfl, hf2⟩
        rw [HVM.out]
        have hf3 := hf1.thenr hf2 (fun _ _ h => h)
        clear hf1 hf2
        go_wp2_with fail
        refine (lawNum_any _ _).mono ?_
        rintro e w3 ⟨rfl, rfl⟩
        go_wp2_with fail
        refine (readTableD_any _ t hmt).mono ?_
        rintro e w4 ⟨ev, bg, va, n, vc, rfl, hf4, hyes⟩
        obtain ⟨-, -, -, -, -, -, th, -, rfl, hth, -⟩ := hyes (by rw [HRD.out])
        have hn : th.length = L := by rw [← HLN.out, ← hth, List.length_map]
        rw [hn, HRD.out]
        clear hth hn hyes
        have hf5 := hf3.thenr hf4 (fun _ _ h => h)
        clear hf3 hf4
        go_wp2_with fail
        refine (lawNum_any _ _).mono ?_
        rintro e w5 ⟨rfl, rfl⟩
        go_wp2_with fail
        go_ret
        exact ⟨rfl, hf5.allocr _⟩
  · have hv : ∀ r, cpV s r = .tuple #[.string ⟨#[]⟩, .int .i64 (unE s).1, .int .i64 (unE s).2] := fun r => by rw [cpV, if_neg h0]
    have HV : Hid (∀ r, cpV s r = .tuple #[.string ⟨#[]⟩, .int .i64 (unE s).1, .int .i64 (unE s).2]) := hv
    have hne : (((unE s).1 : Int) != 0) = true := by simp; omega
    clear h0 hv
    go_enter Tryd.func6, Tryd.ntmps6
    go_wp2_with fail
    refine Calls.mono (HC.out w rows (Fr.refl _ _) HR.out) ?_
    rintro e w1 ⟨rfl, hf1⟩
    rw [HV.out]
    go_wp2_with fail
    refine Calls.mono (HC.out w1 more hf1 HM.out) ?_
    rintro e w2 ⟨rfl, hf2⟩
    rw [HV.out]
    have hf3 := hf1.thenr hf2 (fun _ _ h => h)
    clear hf1 hf2
    go_wp2_with fail
    refine (lawNum_any _ _).mono ?_
    rintro e w3 ⟨rfl, rfl⟩
    go_wp2_with fail
    refine (pcheck_any _ s hm).mono ?_
    rintro e w4 ⟨rfl, hf4⟩
    have hf5 := hf3.thenr hf4 (fun _ _ h => h)
    clear hf3 hf4 HC HV
    generalize ((unE s).1 : Int) = E at *
    go_wp2_with fail
    refine (lawNum_any _ _).mono ?_
    rintro e w5 ⟨rfl, rfl⟩
    go_wp2_with fail
    go_ret
    exact ⟨rfl, hf5⟩

open Go.ChangeShapes Go.WideShapes Go.ChangeAt
open Go.ChangeMaps (open_string shut_string)

set_option maxRecDepth 100000 in
theorem limit_lifted (os : Os) (started : os.Started) (H : Type) (enc : TypeId × Value → H) :
    ReturnsInHanded {} Tryd.checked os 6 .any (fun w args => (Rows.limitSpec.pre enc Tryd.prog Tryd.f6 [] false w args ∧ laidMetH Tryd.prog laidL w) ∧ sizedMet enc Tryd.prog Tryd.f6 (OpenSpec.ofChange Rows.limitSpec) false w args)
      (Rows.limitSpec.post enc Tryd.prog Tryd.f6 false true false false) := by
  refine returnsInHanded_of_change_and (C := Tryd.checked) (X := fun w _ => laidMetH Tryd.prog laidL w) (fun _ _ _ hh h => h.of_heap hh) own_knob started (by kernel_rfl) Tryd.func6
    (ChangeSpec.witness_at (enc := enc) (C := Tryd.checked) (os := os) (X := fun w _ => laidMetH Tryd.prog laidL w) false (laidWorld os) #[.string ByteArray.empty, .int .i64 0, .int .i64 0] 8 rfl (by kernel_rfl) (by kernel_rfl) (by kernel_rfl) (by kernel_rfl) (by kernel_rfl) (laidWorld_met os _)) ?_
  intro W base args ds gs before hval0 hW _ _ hL _
  have hval : ∀ (j : Nat) t v, Tryd.f6.params[j]? = some t → args[j]? = some v → Value.okWide Tryd.prog W .any base t v := hval0
  have hW' := hW
  obtain ⟨p, q, hA0, hV, rfl, hfz, hnd⟩ := hW
  have hA : DataW.TrodAll enc Tryd.prog W 0 (fun _ => true) true Tryd.f6.params.toList args.toList ds p := hA0
  rw [Tryd.params6] at hA hval
  obtain ⟨v0, vs0, d0, ds0, p0, q0, hargs, rfl, rfl, h0, r0⟩ := trodAll_cons hA
  obtain ⟨v1, vs1, d1, ds1, p1, q1, hargs1, rfl, rfl, h1, r1⟩ := trodAll_cons r0
  obtain ⟨v2, vs2, d2, ds2, p2, q2, hargs2, rfl, rfl, h2, r2⟩ := trodAll_cons r1
  obtain ⟨rfl, rfl, rfl⟩ := trodAll_nil r2
  obtain rfl : args = #[v0, v1, v2] := by cases args; simp_all
  obtain ⟨rfl, rfl⟩ := trodVars_none hV
  obtain ⟨a0, rfl, rfl, rfl, w0⟩ := open_string Tryd.underlying9 (hval 0 9 v0 rfl rfl) h0
  obtain ⟨a1, rfl, rfl, rfl, w1⟩ := open_int Tryd.underlying3 (hval 1 3 v1 rfl rfl) h1
  obtain ⟨a2, rfl, rfl, rfl, w2⟩ := open_int Tryd.underlying3 (hval 2 3 v2 rfl rfl) h2
  clear hA0 hval0
  simp only [List.append_nil] at hW'
  obtain ⟨H0, hI, hH0⟩ := itO_of W (tabW_of hL)
  refine (limit_walk H0 TabW hI W (tabW_of hL) hH0 a0 a1 a2 w0 (i64_bd w1) (i64_bd w2)).mono fun e W' ⟨he, hg⟩ => ?_
  subst he
  have hB : Below W.heap.size W W' := hg.below W.heap.size (Nat.le_refl _) (fun _ h => h.elim)
  refine ⟨_, rfl, _, _, _, [], [], [], hW', ?_, ?_, ?_, hB.frame _, fun h => by cases h⟩
  · exact trodAll_cons_mk (shut_bool Tryd.underlying4 _) trodAll_mk0
  · exact trodAll_cons_mk (shut_string Tryd.underlying9 w0) (trodAll_cons_mk (shut_int Tryd.underlying3 w1) (trodAll_cons_mk (shut_int Tryd.underlying3 w2) trodAll_mk0))
  · rfl

theorem limit_over : Rows.limitRow.holds Tryd.pinned (OpenSpec.ofChange Rows.limitSpec) :=
  OpenClaim.holds_of_wide 6 Tryd.f6 rfl rfl rfl rfl rfl rfl rfl ⟨rfl, rfl, rfl, rfl, rfl⟩ rfl rfl rfl rfl rfl (by kernel_rfl) Tryd.func6 (by kernel_rfl)
    (of_decide_eq_true (by kernel_rfl)) (by unfold Func.isWrapper; first | (rw [if_pos (by decide +kernel)]; kernel_rfl) | (rw [if_neg (by decide +kernel)]; exact ⟨rfl, rfl⟩))
    (fun os started H enc _ => limit_lifted os started H enc)
end Go.Proofs.YtmolmbeeoecnfabDoor

/- Own work: the statement on Limit, tied: proved. -/
namespace Go.Proofs.YtmolmbeeoecnfabDoor
open Go

theorem limit_card : Rows.LimitCardSaid :=
  Claim7.holds_tied_plain_at .later [] [.data, .data, .data] true _ false
    limit_over (fun _ h => by cases h) (by kernel_rfl) (fun _ h => by cases h) limit_row_tie rfl ⟨rfl, rfl⟩ (by kernel_rfl) rfl
    (fun f fn hf hfn => by
      obtain rfl : f = 6 := Option.some.inj ((show Tryd.prog.funcNamed "chart/chartlaw.Limit" = some 6 by kernel_rfl).symm.trans hf) |>.symm
      obtain rfl : fn = Tryd.f6 := (Option.some.inj (Tryd.func6.symm.trans hfn)).symm
      exact ⟨by kernel_rfl, fun j t ht => by
        rw [Tryd.params6] at ht
        have h3 : t = 9 ∨ t = 3 := by
          rcases j with _ | _ | _ | j <;> simp at ht <;> simp [← ht]
        rcases h3 with rfl | rfl
        · exact (show Tryd.prog.wantsStandIn 9 = false by kernel_rfl)
        · exact (show Tryd.prog.wantsStandIn 3 = false by kernel_rfl)⟩)
    (by kernel_rfl)
#print axioms limit_card
end Go.Proofs.YtmolmbeeoecnfabDoor
