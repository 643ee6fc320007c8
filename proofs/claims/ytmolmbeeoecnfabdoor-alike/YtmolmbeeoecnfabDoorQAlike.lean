/- Own work: the law Alike: its walk, its row, its card. -/
import Derived.Test.YtmolmbeeoecnfabDoorQ26
import Derived.Test.YtmolmbeeoecnfabDoorQ44
import Derived.Test.YtmolmbeeoecnfabDoorQ46
import Derived.Test.YtmolmbeeoecnfabDoorCards
import Derived.Test.YtmolmbeeoecnfabDoorTie
/- Own work: the walk of the law Alike, and its row. -/
namespace Go.Proofs.YtmolmbeeoecnfabDoor
open Go.RowKit Go.BigFrame
set_option linter.unusedVariables false
set_option linter.unusedSimpArgs false

set_option maxRecDepth 100000 in
set_option maxHeartbeats 1000000 in
theorem alike_walk (H : Nat) (T : World → Prop) (hI : ItO H T) (w : World) (hT : T w) (hH : H ≤ w.heap.size) (s : ByteArray) (rows : Int) (es : ByteArray) (hm : s.size ≤ maxLen) (hr : -9223372036854775808 ≤ rows ∧ rows ≤ 9223372036854775807) (hme : es.size ≤ maxLen) :
    Calls Tryd.prog 3 #[.string s, .int .i64 rows, .string es] w fun e w' => e = .returned (.bool true) ∧ Fr (fun _ => False) w w' := by
  have HC : Hid _ := pcompile_any H T hI w s rows hm hT hH hr
  clear hI hT hH hr
  by_cases h0 : (unE s).1 = 0
  · cases hc : cpS s rows with
    | none =>
      have HV : Hid (cpV s rows = .tuple #[.string ⟨#[]⟩, .int .i64 7, .int .i64 0]) := by show _ = _; rw [cpV, if_pos h0, hc]
      have HE : Hid (((unE s).1 : Int) = 0) := by show _ = _; omega
      clear hc h0
      go_enter Tryd.func3, Tryd.ntmps3
      go_wp2_with fail
      refine Calls.mono HC.out ?_
      rintro e w1 ⟨rfl, hf1⟩
      rw [HV.out]
      go_wp2_with fail
      refine (lawNum_any _ _).mono ?_
      rintro e w2 ⟨rfl, rfl⟩
      go_wp2_with fail
      refine (pcheck_any _ s hm).mono ?_
      rintro e w3 ⟨rfl, hf3⟩
      rw [HE.out]
      have hf4 := hf1.thenr hf3 (fun _ _ h => h)
      clear hf1 hf3
      go_wp2_with fail
      refine (lawNum_any _ _).mono ?_
      rintro e w4 ⟨rfl, rfl⟩
      go_wp2_with fail
      refine (lawNum_any _ _).mono ?_
      rintro e w5 ⟨rfl, rfl⟩
      go_wp2_with fail
      go_ret
      exact ⟨rfl, hf4⟩
    | some t =>
      obtain ⟨l, Cs, hCT⟩ := cpS_some h0 hc
      have HCT : Hid (CpT s rows t l Cs) := hCT
      have HV : Hid (cpV s rows = .tuple #[.string t, .int .i64 0, .int .i64 0]) := by show _ = _; rw [cpV, if_pos h0, hc]
      have HE : Hid ((unE s).1 = 0) := h0
      have HL : Hid (ldE t = (0, 0)) := hCT.ld
      have hmt : t.size ≤ maxLen := by have := hCT.size; unfold maxLen; omega
      have h3 : decide ((3 : Int) ≤ (t.size : Int)) = true := by have := hCT.three; simp; omega
      clear hc h0 hCT
      by_cases h4 : 400 < es.size
      · have H4 : Hid (400 < es.size) := h4
        have HX : Hid (runX t es = (⟨#[]⟩, 0, 1, 0)) := by show _ = _; rw [runX, if_pos h4]
        clear h4
        go_enter Tryd.func3, Tryd.ntmps3
        go_wp2_with fail
        refine Calls.mono HC.out ?_
        rintro e w1 ⟨rfl, hf1⟩
        rw [HV.out]
        go_wp2_with fail
        refine (lawNum_any _ _).mono ?_
        rintro e w2 ⟨rfl, rfl⟩
        go_wp2_with fail
        refine (pload_any _ t hmt).mono ?_
        rintro e w3 ⟨rfl, hf3⟩
        rw [HL.out]
        have hf4 := hf1.thenr hf3 (fun _ _ h => h)
        clear hf1 hf3
        go_wp2_with fail
        refine (prun_any _ t es hmt hme).mono ?_
        rintro e w4 ⟨rfl, hf5⟩
        rw [HX.out]
        have hf6 := hf4.thenr hf5 (fun _ _ h => h)
        clear hf4 hf5
        go_wp2_with fail
        refine (pplay_long _ s es H4.out).mono ?_
        rintro e w5 ⟨rfl, hf7⟩
        have hf8 := hf6.thenr hf7 (fun _ _ h => h)
        clear hf6 hf7
        go_wp2_with fail
        refine (lawNum_any _ _).mono ?_
        rintro e w6 ⟨rfl, rfl⟩
        go_wp2_with fail
        refine (lawNum_any _ _).mono ?_
        rintro e w7 ⟨rfl, rfl⟩
        go_wp2_with fail
        refine (lawNum_any _ _).mono ?_
        rintro e w8 ⟨rfl, rfl⟩
        go_wp2_with fail
        go_ret
        exact ⟨rfl, hf8⟩
      · have H4 : Hid (es.size ≤ 400) := by show _ ≤ _; omega
        obtain ⟨n, hx, -⟩ := HCT.out.run es H4.out
        have HX : Hid (runX t es = (pO s es, n, 0, 0)) := hx
        clear h4 hx
        go_enter Tryd.func3, Tryd.ntmps3
        go_wp2_with fail
        refine Calls.mono HC.out ?_
        rintro e w1 ⟨rfl, hf1⟩
        rw [HV.out]
        go_wp2_with fail
        refine (lawNum_any _ _).mono ?_
        rintro e w2 ⟨rfl, rfl⟩
        go_wp2_with fail
        refine (pload_any _ t hmt).mono ?_
        rintro e w3 ⟨rfl, hf3⟩
        rw [HL.out]
        have hf4 := hf1.thenr hf3 (fun _ _ h => h)
        clear hf1 hf3
        go_wp2_with fail
        refine (prun_any _ t es hmt hme).mono ?_
        rintro e w4 ⟨rfl, hf5⟩
        rw [HX.out]
        have hf6 := hf4.thenr hf5 (fun _ _ h => h)
        clear hf4 hf5
        go_wp2_with fail
        refine (pplay_ok _ s es hm H4.out).mono ?_
        rintro e w5 ⟨rfl, hf7, -⟩
        rw [HE.out, unE_2 HE.out]
        generalize pO s es = O at *
        generalize pS s es = S at *
        have hf8 := hf6.thenr hf7 (fun _ _ h => h)
        clear hf6 hf7
        go_wp2_with fail
        refine (lawNum_any _ _).mono ?_
        rintro e w6 ⟨rfl, rfl⟩
        go_wp2_with fail
        refine (lawNum_any _ _).mono ?_
        rintro e w7 ⟨rfl, rfl⟩
        go_wp2_with fail
        refine (lawNum_any _ _).mono ?_
        rintro e w8 ⟨rfl, rfl⟩
        go_wp2_with fail
        go_ret
        exact ⟨rfl, hf8⟩
  · have HV : Hid (cpV s rows = .tuple #[.string ⟨#[]⟩, .int .i64 (unE s).1, .int .i64 (unE s).2]) := by show _ = _; rw [cpV, if_neg h0]
    have hb := unE_6 s
    have hne : (((unE s).1 : Int) != 0) = true := by simp; omega
    have hn0 : (((unE s).1 : Int) == 0) = false := by simp; omega
    have hn7 : (((unE s).1 : Int) == 7) = false := by simp; omega
    clear h0 hb
    go_enter Tryd.func3, Tryd.ntmps3
    go_wp2_with fail
    refine Calls.mono HC.out ?_
    rintro e w1 ⟨rfl, hf1⟩
    rw [HV.out]
    go_wp2_with fail
    refine (lawNum_any _ _).mono ?_
    rintro e w2 ⟨rfl, rfl⟩
    go_wp2_with fail
    refine (pcheck_any _ s hm).mono ?_
    rintro e w3 ⟨rfl, hf3⟩
    have hf4 := hf1.thenr hf3 (fun _ _ h => h)
    clear hf1 hf3 HV HC
    generalize ((unE s).1 : Int) = E at *
    go_wp2_with fail
    refine (lawNum_any _ _).mono ?_
    rintro e w4 ⟨rfl, rfl⟩
    go_wp2_with fail
    refine (lawNum_any _ _).mono ?_
    rintro e w5 ⟨rfl, rfl⟩
    go_wp2_with fail
    go_ret
    exact ⟨rfl, hf4⟩

open Go.ChangeShapes Go.WideShapes Go.ChangeAt
open Go.ChangeMaps (open_string shut_string)

set_option maxRecDepth 100000 in
theorem alike_lifted (os : Os) (started : os.Started) (H : Type) (enc : TypeId × Value → H) :
    ReturnsInHanded {} Tryd.checked os 3 .any (fun w args => (Rows.alikeSpec.pre enc Tryd.prog Tryd.f3 [] false w args ∧ laidMetH Tryd.prog laidL w) ∧ sizedMet enc Tryd.prog Tryd.f3 (OpenSpec.ofChange Rows.alikeSpec) false w args)
      (Rows.alikeSpec.post enc Tryd.prog Tryd.f3 false true false false) := by
  refine returnsInHanded_of_change_and (C := Tryd.checked) (X := fun w _ => laidMetH Tryd.prog laidL w) (fun _ _ _ hh h => h.of_heap hh) own_knob started (by kernel_rfl) Tryd.func3
    (ChangeSpec.witness_at (enc := enc) (C := Tryd.checked) (os := os) (X := fun w _ => laidMetH Tryd.prog laidL w) false (laidWorld os) #[.string ByteArray.empty, .int .i64 0, .string ByteArray.empty] 8 rfl (by kernel_rfl) (by kernel_rfl) (by kernel_rfl) (by kernel_rfl) (by kernel_rfl) (laidWorld_met os _)) ?_
  intro W base args ds gs before hval0 hW _ _ hL _
  have hval : ∀ (j : Nat) t v, Tryd.f3.params[j]? = some t → args[j]? = some v → Value.okWide Tryd.prog W .any base t v := hval0
  have hW' := hW
  obtain ⟨p, q, hA0, hV, rfl, hfz, hnd⟩ := hW
  have hA : DataW.TrodAll enc Tryd.prog W 0 (fun _ => true) true Tryd.f3.params.toList args.toList ds p := hA0
  rw [Tryd.params3] at hA hval
  obtain ⟨v0, vs0, d0, ds0, p0, q0, hargs, rfl, rfl, h0, r0⟩ := trodAll_cons hA
  obtain ⟨v1, vs1, d1, ds1, p1, q1, hargs1, rfl, rfl, h1, r1⟩ := trodAll_cons r0
  obtain ⟨v2, vs2, d2, ds2, p2, q2, hargs2, rfl, rfl, h2, r2⟩ := trodAll_cons r1
  obtain ⟨rfl, rfl, rfl⟩ := trodAll_nil r2
  obtain rfl : args = #[v0, v1, v2] := by cases args; simp_all
  obtain ⟨rfl, rfl⟩ := trodVars_none hV
  obtain ⟨a0, rfl, rfl, rfl, w0⟩ := open_string Tryd.underlying9 (hval 0 9 v0 rfl rfl) h0
  obtain ⟨a1, rfl, rfl, rfl, w1⟩ := open_int Tryd.underlying3 (hval 1 3 v1 rfl rfl) h1
  obtain ⟨a2, rfl, rfl, rfl, w2⟩ := open_string Tryd.underlying9 (hval 2 9 v2 rfl rfl) h2
  clear hA0 hval0
  simp only [List.append_nil] at hW'
  obtain ⟨H0, hI, hH0⟩ := itO_of W (tabW_of hL)
  refine (alike_walk H0 TabW hI W (tabW_of hL) hH0 a0 a1 a2 w0 (i64_bd w1) w2).mono fun e W' ⟨he, hg⟩ => ?_
  subst he
  have hB : Below W.heap.size W W' := hg.below W.heap.size (Nat.le_refl _) (fun _ h => h.elim)
  refine ⟨_, rfl, _, _, _, [], [], [], hW', ?_, ?_, ?_, hB.frame _, fun h => by cases h⟩
  · exact trodAll_cons_mk (shut_bool Tryd.underlying4 _) trodAll_mk0
  · exact trodAll_cons_mk (shut_string Tryd.underlying9 w0) (trodAll_cons_mk (shut_int Tryd.underlying3 w1) (trodAll_cons_mk (shut_string Tryd.underlying9 w2) trodAll_mk0))
  · rfl

theorem alike_over : Rows.alikeRow.holds Tryd.pinned (OpenSpec.ofChange Rows.alikeSpec) :=
  OpenClaim.holds_of_wide 3 Tryd.f3 rfl rfl rfl rfl rfl rfl rfl ⟨rfl, rfl, rfl, rfl, rfl⟩ rfl rfl rfl rfl rfl (by kernel_rfl) Tryd.func3 (by kernel_rfl)
    (of_decide_eq_true (by kernel_rfl)) (by unfold Func.isWrapper; first | (rw [if_pos (by decide +kernel)]; kernel_rfl) | (rw [if_neg (by decide +kernel)]; exact ⟨rfl, rfl⟩))
    (fun os started H enc _ => alike_lifted os started H enc)
end Go.Proofs.YtmolmbeeoecnfabDoor

/- Own work: the statement on Alike, tied: proved. -/
namespace Go.Proofs.YtmolmbeeoecnfabDoor
open Go

theorem alike_card : Rows.AlikeCardSaid :=
  Claim7.holds_tied_plain_at .later [] [.data, .data, .data] true _ false
    alike_over (fun _ h => by cases h) (by kernel_rfl) (fun _ h => by cases h) alike_row_tie rfl ⟨rfl, rfl⟩ (by kernel_rfl) rfl
    (fun f fn hf hfn => by
      obtain rfl : f = 3 := Option.some.inj ((show Tryd.prog.funcNamed "chart/chartlaw.Alike" = some 3 by kernel_rfl).symm.trans hf) |>.symm
      obtain rfl : fn = Tryd.f3 := (Option.some.inj (Tryd.func3.symm.trans hfn)).symm
      exact ⟨by kernel_rfl, fun j t ht => by
        rw [Tryd.params3] at ht
        have h3 : t = 9 ∨ t = 3 := by
          rcases j with _ | _ | _ | j <;> simp at ht <;> simp [← ht]
        rcases h3 with rfl | rfl
        · exact (show Tryd.prog.wantsStandIn 9 = false by kernel_rfl)
        · exact (show Tryd.prog.wantsStandIn 3 = false by kernel_rfl)⟩)
    (by kernel_rfl)
#print axioms alike_card
end Go.Proofs.YtmolmbeeoecnfabDoor
