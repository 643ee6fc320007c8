/- Own work: the law Same: its walk, its row, its card. -/
import Derived.Test.YtmolmbeeoecnfabDoorQ26
import Derived.Test.YtmolmbeeoecnfabDoorQ44
import Derived.Test.YtmolmbeeoecnfabDoorQ46
import Derived.Test.YtmolmbeeoecnfabDoorCards
import Derived.Test.YtmolmbeeoecnfabDoorTie
/- Own work: the walk of the law Same, and its row. -/
namespace Go.Proofs.YtmolmbeeoecnfabDoor
open Go.RowKit Go.BigFrame
set_option linter.unusedVariables false
set_option linter.unusedSimpArgs false

/-- What Run and Play answer to one list of events. -/
structure RpS (s t es : ByteArray) (l : List Sx) (o : ByteArray) (n : Nat) (O S : ByteArray) (E : Int) : Prop where
  run : runX t es = (o, n, E, 0)
  play : ∀ w : World, Calls Tryd.prog 12 #[.string s, .string es] w fun e w' => e = .returned (.tuple #[.string O, .string S, .int .i64 E, .int .i64 0]) ∧ Fr (fun _ => False) w w'
  ws : (400 < es.size ∧ E = 1) ∨ (es.size ≤ 400 ∧ E = 0 ∧ S = pS s es ∧ l[n]? = some (sxP (plQ s es)))
theorem rpS_of {s t : ByteArray} {rows : Int} {l : List Sx} {Cs : List (List Cl)} (h : CpT s rows t l Cs) (hm : s.size ≤ maxLen) (es : ByteArray) : ∃ o n O S E, RpS s t es l o n O S E := by
  by_cases h4 : 400 < es.size
  · exact ⟨⟨#[]⟩, 0, ⟨#[]⟩, ⟨#[]⟩, 1, by rw [runX, if_pos h4], fun w => pplay_long w s es h4, Or.inl ⟨h4, rfl⟩⟩
  · obtain ⟨n, h1, h2⟩ := h.run es (by omega)
    refine ⟨pO s es, n, pO s es, pS s es, 0, h1, fun w => ?_, Or.inr ⟨by omega, rfl, rfl, h2⟩⟩
    refine (pplay_ok w s es hm (by omega)).mono ?_
    rintro e w' ⟨rfl, hf, -⟩
    rw [h.ok, unE_2 h.ok]
    exact ⟨rfl, hf⟩
theorem ba_eq {S R : ByteArray} (h : S.toList = R.toList) : S = R := by
  rw [ByteArray.toList_eq, ByteArray.toList_eq] at h
  exact ByteArray.ext (Array.toList_inj.1 h)
theorem ba_ne {S : ByteArray} (h : S ≠ ⟨#[]⟩) : ¬ S.toList = [] := fun e => h (ba_eq (by rw [e, ByteArray.toList_eq]))

set_option maxRecDepth 100000 in
set_option maxHeartbeats 1000000 in
theorem same_walk (H : Nat) (T : World → Prop) (hI : ItO H T) (w : World) (hT : T w) (hH : H ≤ w.heap.size) (s : ByteArray) (rows : Int) (es gs : ByteArray) (hm : s.size ≤ maxLen) (hr : -9223372036854775808 ≤ rows ∧ rows ≤ 9223372036854775807) (hme : es.size ≤ maxLen) (hmg : gs.size ≤ maxLen) :
    Calls Tryd.prog 4 #[.string s, .int .i64 rows, .string es, .string gs] w fun e w' => e = .returned (.bool true) ∧ Fr (fun _ => False) w w' := by
  have HC : Hid _ := pcompile_any H T hI w s rows hm hT hH hr
  clear hI hT hH hr
  have hbad : ∀ (E P : Int), cpV s rows = .tuple #[.string ⟨#[]⟩, .int .i64 E, .int .i64 P] → E ≠ 0 → Calls Tryd.prog 4 #[.string s, .int .i64 rows, .string es, .string gs] w fun e w' => e = .returned (.bool true) ∧ Fr (fun _ => False) w w' := by
    intro E P hv hE
    have HV : Hid (cpV s rows = .tuple #[.string ⟨#[]⟩, .int .i64 E, .int .i64 P]) := hv
    have hne : (E != 0) = true := by simpa using hE
    clear hv hE
    go_enter Tryd.func4, Tryd.ntmps4
    go_wp2_with fail
    refine Calls.mono HC.out ?_
    rintro e w1 ⟨rfl, hf1⟩
    rw [HV.out]
    go_wp2_with fail
    refine (lawNum_any _ _).mono ?_
    rintro e w2 ⟨rfl, rfl⟩
    go_wp2_with fail
    go_ret
    exact ⟨rfl, hf1⟩
  by_cases h0 : (unE s).1 = 0
  · cases hc : cpS s rows with
    | none => exact hbad 7 0 (by rw [cpV, if_pos h0, hc]) (by decide)
    | some t =>
      clear hbad
      obtain ⟨l, Cs, hCT⟩ := cpS_some h0 hc
      have HV : Hid (cpV s rows = .tuple #[.string t, .int .i64 0, .int .i64 0]) := by show _ = _; rw [cpV, if_pos h0, hc]
      have hmt : t.size ≤ maxLen := by have := hCT.size; unfold maxLen; omega
      obtain ⟨o1, n1, O1, S1, E1, r1⟩ := rpS_of hCT hm es
      obtain ⟨o2, n2, O2, S2, E2, r2⟩ := rpS_of hCT hm gs
      have HR1 : Hid (runX t es = (o1, n1, E1, 0)) := r1.run
      have HR2 : Hid (runX t gs = (o2, n2, E2, 0)) := r2.run
      have HP1 : Hid _ := r1.play
      have HP2 : Hid _ := r2.play
      have hcase : (E1 = 0 ∧ E2 = 0 ∧ S1 ≠ ⟨#[]⟩ ∧ S2 ≠ ⟨#[]⟩ ∧ (n1 = n2 ↔ S1 = S2)) ∨ ((E1 != 0) = true ∧ decide ((400 : Int) < es.size) = true) ∨ ((E1 != 0) = false ∧ (E2 != 0) = true ∧ decide ((400 : Int) < es.size) = false ∧ decide ((400 : Int) < gs.size) = true) := by
        rcases r1.ws with ⟨a1, a2⟩ | ⟨a1, a2, a3, a4⟩
        · exact Or.inr (Or.inl ⟨by rw [a2]; rfl, by simp; omega⟩)
        · rcases r2.ws with ⟨b1, b2⟩ | ⟨b1, b2, b3, b4⟩
          · exact Or.inr (Or.inr ⟨by rw [a2]; rfl, by rw [b2]; rfl, by simp; omega, by simp; omega⟩)
          · refine Or.inl ⟨a2, b2, by rw [a3]; exact pS_ne h0 es, by rw [b3]; exact pS_ne h0 gs, ?_⟩
            rw [a3, b3, un_same h0]
            constructor
            · intro e
              rw [e, b4] at a4
              injection a4 with a4
              exact a4.symm
            · intro e
              rw [e] at a4
              exact hCT.ct.ci.nd n1 n2 _ a4 b4
      clear r1 r2 hc hCT h0
      rcases hcase with ⟨rfl, rfl, hs1, hs2, hiff⟩ | ⟨he1, hl1⟩ | ⟨he1, he2, hl1, hl2⟩
      · have hS0 := ba_ne hs1
        have hT0 := ba_ne hs2
        have hS1 : S1.toList.isEmpty = false := by rw [List.isEmpty_eq_false_iff]; exact hS0
        have hT1 : S2.toList.isEmpty = false := by rw [List.isEmpty_eq_false_iff]; exact hT0
        by_cases hST : S1 = S2
        · have hn := hiff.2 hST
          subst hST
          subst hn
          clear hs1 hs2 hiff
          go_enter Tryd.func4, Tryd.ntmps4
          go_wp2_with fail
          refine Calls.mono HC.out ?_
          rintro e w1 ⟨rfl, hf1⟩
          rw [HV.out]
          go_wp2_with fail
          refine (lawNum_any _ _).mono ?_
          rintro e w2 ⟨rfl, rfl⟩
          go_wp2_with fail
          refine (prun_any _ t es hmt hme).mono ?_
          rintro e w3 ⟨rfl, hf3⟩
          rw [HR1.out]
          have hf4 := hf1.thenr hf3 (fun _ _ h => h)
          clear hf1 hf3
          go_wp2_with fail
          refine (prun_any _ t gs hmt hmg).mono ?_
          rintro e w4 ⟨rfl, hf5⟩
          rw [HR2.out]
          have hf6 := hf4.thenr hf5 (fun _ _ h => h)
          clear hf4 hf5
          go_wp2_with fail
          refine Calls.mono (HP1.out _) ?_
          rintro e w5 ⟨rfl, hf7⟩
          have hf8 := hf6.thenr hf7 (fun _ _ h => h)
          clear hf6 hf7
          go_wp2_with fail
          refine Calls.mono (HP2.out _) ?_
          rintro e w6 ⟨rfl, hf9⟩
          have hfa := hf8.thenr hf9 (fun _ _ h => h)
          clear hf8 hf9
          go_wp2_with fail
          refine (lawNum_any _ _).mono ?_
          rintro e w7 ⟨rfl, rfl⟩
          go_wp2_with fail
          refine (lawNum_any _ _).mono ?_
          rintro e w8 ⟨rfl, rfl⟩
          go_wp2_with fail
          refine (lawNum_any _ _).mono ?_
          rintro e w9 ⟨rfl, rfl⟩
          go_wp2_with fail
          refine (lawNum_any _ _).mono ?_
          rintro e wa ⟨rfl, rfl⟩
          go_wp2_with fail
          refine (lawNum_any _ _).mono ?_
          rintro e wb ⟨rfl, rfl⟩
          go_wp2_with fail
          refine (lawNum_any _ _).mono ?_
          rintro e wc ⟨rfl, rfl⟩
          go_wp2_with fail
          go_ret
          exact ⟨rfl, hfa⟩
        · have hn : ¬ n1 = n2 := fun h => hST (hiff.1 h)
          have hq0 : ¬ S1.toList = S2.toList := fun h => hST (ba_eq h)
          have hq1 : (S1.toList == S2.toList) = false := by simpa using hq0
          have hq2 : decide (S1.toList = S2.toList) = false := by simpa using hq0
          have hn1 : ((n1 : Int) == (n2 : Int)) = false := by simp; omega
          have hn2 : decide ((n1 : Int) = (n2 : Int)) = false := by simp; omega
          have hn3 : ¬ (n1 : Int) = (n2 : Int) := by omega
          clear hs1 hs2 hiff hST
          go_enter Tryd.func4, Tryd.ntmps4
          go_wp2_with fail
          refine Calls.mono HC.out ?_
          rintro e w1 ⟨rfl, hf1⟩
          rw [HV.out]
          go_wp2_with fail
          refine (lawNum_any _ _).mono ?_
          rintro e w2 ⟨rfl, rfl⟩
          go_wp2_with fail
          refine (prun_any _ t es hmt hme).mono ?_
          rintro e w3 ⟨rfl, hf3⟩
          rw [HR1.out]
          have hf4 := hf1.thenr hf3 (fun _ _ h => h)
          clear hf1 hf3
          go_wp2_with fail
          refine (prun_any _ t gs hmt hmg).mono ?_
          rintro e w4 ⟨rfl, hf5⟩
          rw [HR2.out]
          have hf6 := hf4.thenr hf5 (fun _ _ h => h)
          clear hf4 hf5
          go_wp2_with fail
          refine Calls.mono (HP1.out _) ?_
          rintro e w5 ⟨rfl, hf7⟩
          have hf8 := hf6.thenr hf7 (fun _ _ h => h)
          clear hf6 hf7
          go_wp2_with fail
          refine Calls.mono (HP2.out _) ?_
          rintro e w6 ⟨rfl, hf9⟩
          have hfa := hf8.thenr hf9 (fun _ _ h => h)
          clear hf8 hf9
          go_wp2_with fail
          refine (lawNum_any _ _).mono ?_
          rintro e w7 ⟨rfl, rfl⟩
          go_wp2_with fail
          refine (lawNum_any _ _).mono ?_
          rintro e w8 ⟨rfl, rfl⟩
          go_wp2_with fail
          refine (lawNum_any _ _).mono ?_
          rintro e w9 ⟨rfl, rfl⟩
          go_wp2_with fail
          refine (lawNum_any _ _).mono ?_
          rintro e wa ⟨rfl, rfl⟩
          go_wp2_with fail
          refine (lawNum_any _ _).mono ?_
          rintro e wb ⟨rfl, rfl⟩
          go_wp2_with fail
          refine (lawNum_any _ _).mono ?_
          rintro e wc ⟨rfl, rfl⟩
          go_wp2_with fail
          go_ret
          exact ⟨rfl, hfa⟩
      · go_enter Tryd.func4, Tryd.ntmps4
        go_wp2_with fail
        refine Calls.mono HC.out ?_
        rintro e w1 ⟨rfl, hf1⟩
        rw [HV.out]
        go_wp2_with fail
        refine (lawNum_any _ _).mono ?_
        rintro e w2 ⟨rfl, rfl⟩
        go_wp2_with fail
        refine (prun_any _ t es hmt hme).mono ?_
        rintro e w3 ⟨rfl, hf3⟩
        rw [HR1.out]
        have hf4 := hf1.thenr hf3 (fun _ _ h => h)
        clear hf1 hf3
        go_wp2_with fail
        refine (prun_any _ t gs hmt hmg).mono ?_
        rintro e w4 ⟨rfl, hf5⟩
        rw [HR2.out]
        have hf6 := hf4.thenr hf5 (fun _ _ h => h)
        clear hf4 hf5
        go_wp2_with fail
        refine Calls.mono (HP1.out _) ?_
        rintro e w5 ⟨rfl, hf7⟩
        have hf8 := hf6.thenr hf7 (fun _ _ h => h)
        clear hf6 hf7
        go_wp2_with fail
        refine Calls.mono (HP2.out _) ?_
        rintro e w6 ⟨rfl, hf9⟩
        have hfa := hf8.thenr hf9 (fun _ _ h => h)
        clear hf8 hf9
        go_wp2_with fail
        refine (lawNum_any _ _).mono ?_
        rintro e x0 ⟨rfl, rfl⟩
        go_wp2_with fail
        refine (lawNum_any _ _).mono ?_
        rintro e x1 ⟨rfl, rfl⟩
        go_wp2_with fail
        refine (lawNum_any _ _).mono ?_
        rintro e x2 ⟨rfl, rfl⟩
        go_wp2_with fail
        refine (lawNum_any _ _).mono ?_
        rintro e x3 ⟨rfl, rfl⟩
        go_wp2_with fail
        refine (lawNum_any _ _).mono ?_
        rintro e x4 ⟨rfl, rfl⟩
        go_wp2_with fail
        go_ret
        exact ⟨rfl, hfa⟩
      · go_enter Tryd.func4, Tryd.ntmps4
        go_wp2_with fail
        refine Calls.mono HC.out ?_
        rintro e w1 ⟨rfl, hf1⟩
        rw [HV.out]
        go_wp2_with fail
        refine (lawNum_any _ _).mono ?_
        rintro e w2 ⟨rfl, rfl⟩
        go_wp2_with fail
        refine (prun_any _ t es hmt hme).mono ?_
        rintro e w3 ⟨rfl, hf3⟩
        rw [HR1.out]
        have hf4 := hf1.thenr hf3 (fun _ _ h => h)
        clear hf1 hf3
        go_wp2_with fail
        refine (prun_any _ t gs hmt hmg).mono ?_
        rintro e w4 ⟨rfl, hf5⟩
        rw [HR2.out]
        have hf6 := hf4.thenr hf5 (fun _ _ h => h)
        clear hf4 hf5
        go_wp2_with fail
        refine Calls.mono (HP1.out _) ?_
        rintro e w5 ⟨rfl, hf7⟩
        have hf8 := hf6.thenr hf7 (fun _ _ h => h)
        clear hf6 hf7
        go_wp2_with fail
        refine Calls.mono (HP2.out _) ?_
        rintro e w6 ⟨rfl, hf9⟩
        have hfa := hf8.thenr hf9 (fun _ _ h => h)
        clear hf8 hf9
        go_wp2_with fail
        refine (lawNum_any _ _).mono ?_
        rintro e x0 ⟨rfl, rfl⟩
        go_wp2_with fail
        refine (lawNum_any _ _).mono ?_
        rintro e x1 ⟨rfl, rfl⟩
        go_wp2_with fail
        refine (lawNum_any _ _).mono ?_
        rintro e x2 ⟨rfl, rfl⟩
        go_wp2_with fail
        refine (lawNum_any _ _).mono ?_
        rintro e x3 ⟨rfl, rfl⟩
        go_wp2_with fail
        refine (lawNum_any _ _).mono ?_
        rintro e x4 ⟨rfl, rfl⟩
        go_wp2_with fail
        refine (lawNum_any _ _).mono ?_
        rintro e x5 ⟨rfl, rfl⟩
        go_wp2_with fail
        go_ret
        exact ⟨rfl, hfa⟩
  · exact hbad _ _ (by rw [cpV, if_neg h0]) (by omega)

open Go.ChangeShapes Go.WideShapes Go.ChangeAt
open Go.ChangeMaps (open_string shut_string)

set_option maxRecDepth 100000 in
theorem same_lifted (os : Os) (started : os.Started) (H : Type) (enc : TypeId × Value → H) :
    ReturnsInHanded {} Tryd.checked os 4 .any (fun w args => (Rows.sameSpec.pre enc Tryd.prog Tryd.f4 [] false w args ∧ laidMetH Tryd.prog laidL w) ∧ sizedMet enc Tryd.prog Tryd.f4 (OpenSpec.ofChange Rows.sameSpec) false w args)
      (Rows.sameSpec.post enc Tryd.prog Tryd.f4 false true false false) := by
  refine returnsInHanded_of_change_and (C := Tryd.checked) (X := fun w _ => laidMetH Tryd.prog laidL w) (fun _ _ _ hh h => h.of_heap hh) own_knob started (by kernel_rfl) Tryd.func4
    (ChangeSpec.witness_at (enc := enc) (C := Tryd.checked) (os := os) (X := fun w _ => laidMetH Tryd.prog laidL w) false (laidWorld os) #[.string ByteArray.empty, .int .i64 0, .string ByteArray.empty, .string ByteArray.empty] 8 rfl (by kernel_rfl) (by kernel_rfl) (by kernel_rfl) (by kernel_rfl) (by kernel_rfl) (laidWorld_met os _)) ?_
  intro W base args ds gs before hval0 hW _ _ hL _
  have hval : ∀ (j : Nat) t v, Tryd.f4.params[j]? = some t → args[j]? = some v → Value.okWide Tryd.prog W .any base t v := hval0
  have hW' := hW
  obtain ⟨p, q, hA0, hV, rfl, hfz, hnd⟩ := hW
  have hA : DataW.TrodAll enc Tryd.prog W 0 (fun _ => true) true Tryd.f4.params.toList args.toList ds p := hA0
  rw [Tryd.params4] at hA hval
  obtain ⟨v0, vs0, d0, ds0, p0, q0, hargs, rfl, rfl, h0, r0⟩ := trodAll_cons hA
  obtain ⟨v1, vs1, d1, ds1, p1, q1, hargs1, rfl, rfl, h1, r1⟩ := trodAll_cons r0
  obtain ⟨v2, vs2, d2, ds2, p2, q2, hargs2, rfl, rfl, h2, r2⟩ := trodAll_cons r1
  obtain ⟨v3, vs3, d3, ds3, p3, q3, hargs3, rfl, rfl, h3, r3⟩ := trodAll_cons r2
  obtain ⟨rfl, rfl, rfl⟩ := trodAll_nil r3
  obtain rfl : args = #[v0, v1, v2, v3] := by cases args; simp_all
  obtain ⟨rfl, rfl⟩ := trodVars_none hV
  obtain ⟨a0, rfl, rfl, rfl, w0⟩ := open_string Tryd.underlying9 (hval 0 9 v0 rfl rfl) h0
  obtain ⟨a1, rfl, rfl, rfl, w1⟩ := open_int Tryd.underlying3 (hval 1 3 v1 rfl rfl) h1
  obtain ⟨a2, rfl, rfl, rfl, w2⟩ := open_string Tryd.underlying9 (hval 2 9 v2 rfl rfl) h2
  obtain ⟨a3, rfl, rfl, rfl, w3⟩ := open_string Tryd.underlying9 (hval 3 9 v3 rfl rfl) h3
  clear hA0 hval0
  simp only [List.append_nil] at hW'
  obtain ⟨H0, hI, hH0⟩ := itO_of W (tabW_of hL)
  refine (same_walk H0 TabW hI W (tabW_of hL) hH0 a0 a1 a2 a3 w0 (i64_bd w1) w2 w3).mono fun e W' ⟨he, hg⟩ => ?_
  subst he
  have hB : Below W.heap.size W W' := hg.below W.heap.size (Nat.le_refl _) (fun _ h => h.elim)
  refine ⟨_, rfl, _, _, _, [], [], [], hW', ?_, ?_, ?_, hB.frame _, fun h => by cases h⟩
  · exact trodAll_cons_mk (shut_bool Tryd.underlying4 _) trodAll_mk0
  · exact trodAll_cons_mk (shut_string Tryd.underlying9 w0) (trodAll_cons_mk (shut_int Tryd.underlying3 w1) (trodAll_cons_mk (shut_string Tryd.underlying9 w2) (trodAll_cons_mk (shut_string Tryd.underlying9 w3) trodAll_mk0)))
  · rfl

theorem same_over : Rows.sameRow.holds Tryd.pinned (OpenSpec.ofChange Rows.sameSpec) :=
  OpenClaim.holds_of_wide 4 Tryd.f4 rfl rfl rfl rfl rfl rfl rfl ⟨rfl, rfl, rfl, rfl, rfl⟩ rfl rfl rfl rfl rfl (by kernel_rfl) Tryd.func4 (by kernel_rfl)
    (of_decide_eq_true (by kernel_rfl)) (by unfold Func.isWrapper; first | (rw [if_pos (by decide +kernel)]; kernel_rfl) | (rw [if_neg (by decide +kernel)]; exact ⟨rfl, rfl⟩))
    (fun os started H enc _ => same_lifted os started H enc)
end Go.Proofs.YtmolmbeeoecnfabDoor

/- Own work: the statement on Same, tied: proved. -/
namespace Go.Proofs.YtmolmbeeoecnfabDoor
open Go

theorem same_card : Rows.SameCardSaid :=
  Claim7.holds_tied_plain_at .later [] [.data, .data, .data] true _ false
    same_over (fun _ h => by cases h) (by kernel_rfl) (fun _ h => by cases h) same_row_tie rfl ⟨rfl, rfl⟩ (by kernel_rfl) rfl
    (fun f fn hf hfn => by
      obtain rfl : f = 4 := Option.some.inj ((show Tryd.prog.funcNamed "chart/chartlaw.Same" = some 4 by kernel_rfl).symm.trans hf) |>.symm
      obtain rfl : fn = Tryd.f4 := (Option.some.inj (Tryd.func4.symm.trans hfn)).symm
      exact ⟨by kernel_rfl, fun j t ht => by
        rw [Tryd.params4] at ht
        have h3 : t = 9 ∨ t = 3 := by
          rcases j with _ | _ | _ | _ | j <;> simp at ht <;> simp [← ht]
        rcases h3 with rfl | rfl
        · exact (show Tryd.prog.wantsStandIn 9 = false by kernel_rfl)
        · exact (show Tryd.prog.wantsStandIn 3 = false by kernel_rfl)⟩)
    (by kernel_rfl)
#print axioms same_card
end Go.Proofs.YtmolmbeeoecnfabDoor
