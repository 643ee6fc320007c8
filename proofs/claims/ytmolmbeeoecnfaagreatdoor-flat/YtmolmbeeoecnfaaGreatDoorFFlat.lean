/- Own work: the law Flat: its walk, its row, its card. -/
import Derived.Test.YtmolmbeeoecnfaaGreatDoorF25
import Derived.Test.YtmolmbeeoecnfaaGreatDoorF37
import Derived.Test.YtmolmbeeoecnfaaGreatDoorF50
import Derived.Test.YtmolmbeeoecnfaaGreatDoorF40
import Derived.Test.YtmolmbeeoecnfaaGreatDoorCards
import Derived.Test.YtmolmbeeoecnfaaGreatDoorTie
/- Own work: the walk of the law Flat, and its row. -/
namespace Go.Proofs.YtmolmbeeoecnfaaGreatDoor
open Go.RowKit Go.BigFrame
set_option linter.unusedVariables false
set_option linter.unusedSimpArgs false

set_option maxRecDepth 100000 in
set_option maxHeartbeats 1000000 in
theorem flat_walk (H : Nat) (T : World → Prop) (hI : ItO H T) (w : World) (hT : T w) (hH : H ≤ w.heap.size) (s : ByteArray) (rows : Int) (es : ByteArray) (hm : s.size ≤ maxLen) (hr : -9223372036854775808 ≤ rows ∧ rows ≤ 9223372036854775807) (hme : es.size ≤ maxLen) :
    Calls Tryz.prog 4 #[.string s, .int .i64 rows, .string es] w fun e w' => e = .returned (.bool true) ∧ Fr (fun _ => False) w w' := by
  have HC : Hid _ := pcompile_any H T hI w s rows hm hT hH hr
  have HQ : Hid (unE s = ((rdE s).1, ((rdE s).2 : Int))) := check_eq s
  clear hI hT hH hr
  by_cases h0 : (unE s).1 = 0
  · have hr0 : (rdE s).1 = 0 := by have := congrArg Prod.fst HQ.out; simp only at this; omega
    have hr1 : ((rdE s).1 : Int) = 0 := by omega
    cases hc : cpS s rows with
    | none =>
      have HV : Hid (cpV s rows = .tuple #[.string ⟨#[]⟩, .int .i64 7, .int .i64 0]) := by show _ = _; rw [cpV, if_pos h0, hc]
      have HR : Hid (((rdE s).1 : Int) = 0) := hr1
      clear hc h0 hr0 hr1 HQ
      go_enter Tryz.func4, Tryz.ntmps4
      go_wp2_with fail
      refine Calls.mono HC.out ?_
      rintro e w1 ⟨rfl, hf1⟩
      rw [HV.out]
      go_wp2_with fail
      refine (rcheck_any _ s hm).mono ?_
      rintro e w2 ⟨rfl, hf2⟩
      rw [HR.out]
      have hf3 := hf1.thenr hf2 (fun _ _ h => h)
      clear hf1 hf2
      go_wp2_with fail
      refine (lawNum_any _ _).mono ?_
      rintro e w3 ⟨rfl, rfl⟩
      go_wp2_with fail
      refine (lawNum_any _ _).mono ?_
      rintro e w4 ⟨rfl, rfl⟩
      go_wp2_with fail
      go_ret
      exact ⟨rfl, hf3⟩
    | some t =>
      obtain ⟨l, Cs, hCT⟩ := cpS_some h0 hc
      have HCT : Hid (CpT s rows t l Cs) := hCT
      have HV : Hid (cpV s rows = .tuple #[.string t, .int .i64 0, .int .i64 0]) := by show _ = _; rw [cpV, if_pos h0, hc]
      have HR : Hid (((rdE s).1 : Int) = 0) := hr1
      have HL : Hid (rdT t = (0, 0)) := hCT.rd
      have hmt : t.size ≤ maxLen := by have := hCT.size; unfold maxLen; omega
      clear hc h0 hCT hr0 hr1 HQ
      by_cases h4 : 400 < es.size
      · have H4 : Hid (400 < es.size) := h4
        have HX : Hid (runX t es = (⟨#[]⟩, 0, 1, 0)) := by show _ = _; rw [runX, if_pos h4]
        clear h4
        go_enter Tryz.func4, Tryz.ntmps4
        go_wp2_with fail
        refine Calls.mono HC.out ?_
        rintro e w1 ⟨rfl, hf1⟩
        rw [HV.out]
        go_wp2_with fail
        refine (rcheck_any _ s hm).mono ?_
        rintro e w2 ⟨rfl, hf2⟩
        rw [HR.out]
        have hf3 := hf1.thenr hf2 (fun _ _ h => h)
        clear hf1 hf2
        go_wp2_with fail
        refine (lawNum_any _ _).mono ?_
        rintro e w3 ⟨rfl, rfl⟩
        go_wp2_with fail
        refine (rload_any _ t hmt).mono ?_
        rintro e w4 ⟨rfl, hf4⟩
        rw [HL.out]
        have hf5 := hf3.thenr hf4 (fun _ _ h => h)
        clear hf3 hf4
        go_wp2_with fail
        refine (rrun_any _ t es hmt hme).mono ?_
        rintro e w5 ⟨rfl, hf6⟩
        rw [HX.out]
        have hf7 := hf5.thenr hf6 (fun _ _ h => h)
        clear hf5 hf6
        go_wp2_with fail
        refine (dplay_long _ s es hm H4.out).mono ?_
        rintro e w6 ⟨rfl, hf8⟩
        have hf9 := hf7.thenr hf8 (fun _ _ h => h)
        clear hf7 hf8
        go_wp2_with fail
        go_ret
        exact ⟨rfl, hf9⟩
      · have H4 : Hid (es.size ≤ 400) := by show _ ≤ _; omega
        obtain ⟨n, hx, -⟩ := HCT.out.run es H4.out
        have HX : Hid (runX t es = (pO s es, n, 0, 0)) := hx
        clear h4 hx
        go_enter Tryz.func4, Tryz.ntmps4
        go_wp2_with fail
        refine Calls.mono HC.out ?_
        rintro e w1 ⟨rfl, hf1⟩
        rw [HV.out]
        go_wp2_with fail
        refine (rcheck_any _ s hm).mono ?_
        rintro e w2 ⟨rfl, hf2⟩
        rw [HR.out]
        have hf3 := hf1.thenr hf2 (fun _ _ h => h)
        clear hf1 hf2
        go_wp2_with fail
        refine (lawNum_any _ _).mono ?_
        rintro e w3 ⟨rfl, rfl⟩
        go_wp2_with fail
        refine (rload_any _ t hmt).mono ?_
        rintro e w4 ⟨rfl, hf4⟩
        rw [HL.out]
        have hf5 := hf3.thenr hf4 (fun _ _ h => h)
        clear hf3 hf4
        go_wp2_with fail
        refine (rrun_any _ t es hmt hme).mono ?_
        rintro e w5 ⟨rfl, hf6⟩
        rw [HX.out]
        have hf7 := hf5.thenr hf6 (fun _ _ h => h)
        clear hf5 hf6
        go_wp2_with fail
        refine (dplay_any _ s es hm H4.out).mono ?_
        rintro e w6 ⟨rfl, hf8⟩
        rw [HR.out]
        generalize pO s es = O at *
        generalize pS s es = S at *
        have hf9 := hf7.thenr hf8 (fun _ _ h => h)
        clear hf7 hf8
        go_wp2_with fail
        go_ret
        exact ⟨rfl, hf9⟩
  · have HV : Hid (cpV s rows = .tuple #[.string ⟨#[]⟩, .int .i64 (unE s).1, .int .i64 (unE s).2]) := by show _ = _; rw [cpV, if_neg h0]
    have hr1 : ((rdE s).1 : Int) ≠ 0 := by have := congrArg Prod.fst HQ.out; simp only at this; omega
    have hne : (((rdE s).1 : Int) != 0) = true := by simpa using hr1
    have hne2 : (((unE s).1 : Int) != 0) = true := by simp; omega
    clear h0 hr1
    go_enter Tryz.func4, Tryz.ntmps4
    go_wp2_with fail
    refine Calls.mono HC.out ?_
    rintro e w1 ⟨rfl, hf1⟩
    rw [HV.out]
    go_wp2_with fail
    refine (rcheck_any _ s hm).mono ?_
    rintro e w2 ⟨rfl, hf2⟩
    have hf3 := hf1.thenr hf2 (fun _ _ h => h)
    clear hf1 hf2 HC HV HQ
    generalize ((rdE s).1 : Int) = E at *
    generalize ((unE s).1 : Int) = U at *
    go_wp2_with fail
    refine (lawNum_any _ _).mono ?_
    rintro e w3 ⟨rfl, rfl⟩
    go_wp2_with fail
    go_ret
    exact ⟨rfl, hf3⟩

open Go.ChangeShapes Go.WideShapes Go.ChangeAt
open Go.ChangeMaps (open_string shut_string)

set_option maxRecDepth 100000 in
theorem flat_lifted (os : Os) (started : os.Started) (H : Type) (enc : TypeId × Value → H) :
    ReturnsInHanded {} Tryz.checked os 4 .any (fun w args => (Rows.flatSpec.pre enc Tryz.prog Tryz.f4 [] false w args ∧ laidMetH Tryz.prog laidL w) ∧ sizedMet enc Tryz.prog Tryz.f4 (OpenSpec.ofChange Rows.flatSpec) false w args)
      (Rows.flatSpec.post enc Tryz.prog Tryz.f4 false true false false) := by
  refine returnsInHanded_of_change_and (C := Tryz.checked) (X := fun w _ => laidMetH Tryz.prog laidL w) (fun _ _ _ hh h => h.of_heap hh) own_knob started (by kernel_rfl) Tryz.func4
    (ChangeSpec.witness_at (enc := enc) (C := Tryz.checked) (os := os) (X := fun w _ => laidMetH Tryz.prog laidL w) false (laidWorld os) #[.string ByteArray.empty, .int .i64 0, .string ByteArray.empty] 8 rfl (by kernel_rfl) (by kernel_rfl) (by kernel_rfl) (by kernel_rfl) (by kernel_rfl) (laidWorld_met os _)) ?_
  intro W base args ds gs before hval0 hW _ _ hL _
  have hval : ∀ (j : Nat) t v, Tryz.f4.params[j]? = some t → args[j]? = some v → Value.okWide Tryz.prog W .any base t v := hval0
  have hW' := hW
  obtain ⟨p, q, hA0, hV, rfl, hfz, hnd⟩ := hW
  have hA : DataW.TrodAll enc Tryz.prog W 0 (fun _ => true) true Tryz.f4.params.toList args.toList ds p := hA0
  rw [Tryz.params4] at hA hval
  obtain ⟨v0, vs0, d0, ds0, p0, q0, hargs, rfl, rfl, h0, r0⟩ := trodAll_cons hA
  obtain ⟨v1, vs1, d1, ds1, p1, q1, hargs1, rfl, rfl, h1, r1⟩ := trodAll_cons r0
  obtain ⟨v2, vs2, d2, ds2, p2, q2, hargs2, rfl, rfl, h2, r2⟩ := trodAll_cons r1
  obtain ⟨rfl, rfl, rfl⟩ := trodAll_nil r2
  obtain rfl : args = #[v0, v1, v2] := by cases args; simp_all
  obtain ⟨rfl, rfl⟩ := trodVars_none hV
  obtain ⟨a0, rfl, rfl, rfl, w0⟩ := open_string Tryz.underlying9 (hval 0 9 v0 rfl rfl) h0
  obtain ⟨a1, rfl, rfl, rfl, w1⟩ := open_int Tryz.underlying3 (hval 1 3 v1 rfl rfl) h1
  obtain ⟨a2, rfl, rfl, rfl, w2⟩ := open_string Tryz.underlying9 (hval 2 9 v2 rfl rfl) h2
  clear hA0 hval0
  simp only [List.append_nil] at hW'
  obtain ⟨H0, hI, hH0⟩ := itO_of W (tabW_of hL)
  refine (flat_walk H0 TabW hI W (tabW_of hL) hH0 a0 a1 a2 w0 (i64_bd w1) w2).mono fun e W' ⟨he, hg⟩ => ?_
  subst he
  have hB : Below W.heap.size W W' := hg.below W.heap.size (Nat.le_refl _) (fun _ h => h.elim)
  refine ⟨_, rfl, _, _, _, [], [], [], hW', ?_, ?_, ?_, hB.frame _, fun h => by cases h⟩
  · exact trodAll_cons_mk (shut_bool Tryz.underlying4 _) trodAll_mk0
  · exact trodAll_cons_mk (shut_string Tryz.underlying9 w0) (trodAll_cons_mk (shut_int Tryz.underlying3 w1) (trodAll_cons_mk (shut_string Tryz.underlying9 w2) trodAll_mk0))
  · rfl

theorem flat_over : Rows.flatRow.holds Tryz.pinned (OpenSpec.ofChange Rows.flatSpec) :=
  OpenClaim.holds_of_wide 4 Tryz.f4 rfl rfl rfl rfl rfl rfl rfl ⟨rfl, rfl, rfl, rfl, rfl⟩ rfl rfl rfl rfl rfl (by kernel_rfl) Tryz.func4 (by kernel_rfl)
    (of_decide_eq_true (by kernel_rfl)) (by unfold Func.isWrapper; first | (rw [if_pos (by decide +kernel)]; kernel_rfl) | (rw [if_neg (by decide +kernel)]; exact ⟨rfl, rfl⟩))
    (fun os started H enc _ => flat_lifted os started H enc)
end Go.Proofs.YtmolmbeeoecnfaaGreatDoor

/- Own work: the statement on Flat, tied: proved. -/
namespace Go.Proofs.YtmolmbeeoecnfaaGreatDoor
open Go

theorem flat_card : Rows.FlatCardSaid :=
  Claim7.holds_tied_plain_at .later [] [.data, .data, .data] true _ false
    flat_over (fun _ h => by cases h) (by kernel_rfl) (fun _ h => by cases h) flat_row_tie rfl ⟨rfl, rfl⟩ (by kernel_rfl) rfl
    (fun f fn hf hfn => by
      obtain rfl : f = 4 := Option.some.inj ((show Tryz.prog.funcNamed "chart/chartlaw.Flat" = some 4 by kernel_rfl).symm.trans hf) |>.symm
      obtain rfl : fn = Tryz.f4 := (Option.some.inj (Tryz.func4.symm.trans hfn)).symm
      exact ⟨by kernel_rfl, fun j t ht => by
        rw [Tryz.params4] at ht
        have h3 : t = 9 ∨ t = 3 := by
          rcases j with _ | _ | _ | j <;> simp at ht <;> simp [← ht]
        rcases h3 with rfl | rfl
        · exact (show Tryz.prog.wantsStandIn 9 = false by kernel_rfl)
        · exact (show Tryz.prog.wantsStandIn 3 = false by kernel_rfl)⟩)
    (by kernel_rfl)
#print axioms flat_card
end Go.Proofs.YtmolmbeeoecnfaaGreatDoor
