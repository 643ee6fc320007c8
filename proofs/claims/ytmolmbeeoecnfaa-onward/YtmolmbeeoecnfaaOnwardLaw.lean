/- Own work: the walk of the law Onward, and its row. -/
import Derived.Test.YtmolmbeeoecnfaaLawBase
import Derived.Test.YtmolmbeeoecnfaaPyZ7
namespace Go.Proofs.Ytmolmbeeoecnfaa
open Go.RowKit Go.BigFrame
set_option linter.unusedVariables false
set_option linter.unusedSimpArgs false

theorem ne_data {S : ByteArray} (h : S.toList = []) : S = ⟨#[]⟩ := by
  apply ByteArray.ext
  apply Array.toList_inj.1
  have h1 : S.toList = S.data.toList := ByteArray.toList_eq S
  rw [← h1, h]

set_option maxRecDepth 100000 in
set_option maxHeartbeats 1000000 in
theorem onward_walk (s a b : ByteArray) (hm : s.size ≤ maxLen) (ha : a.size ≤ maxLen) (hb : b.size ≤ maxLen) (w : World) :
    Calls Try.prog 5 #[.string s, .string a, .string b] w fun e w' => e = .returned (.bool true) ∧ Fr (fun _ => False) w w' := by
  unfold maxLen at ha hb
  by_cases h400 : (400 : Int) < a.size
  · go_enter Try.func5, Try.ntmps5
    go_wp2_with fail
    go_ret
    exact ⟨rfl, Fr.refl _ _⟩
  · have d400 : decide ((400 : Int) < a.size) = false := by simpa using h400
    by_cases h2 : (400 : Int) - a.size < b.size
    · go_enter Try.func5, Try.ntmps5
      go_wp2_with fail
      go_ret
      exact ⟨rfl, Fr.refl _ _⟩
    · have d2 : decide ((400 : Int) - a.size < b.size) = false := by simpa using h2
      have hab : (a ++ b).size ≤ 400 := by rw [ByteArray.size_append]; omega
      have HA : Hid (a.size ≤ 400) := by show _ ≤ _; omega
      have HAB : Hid ((a ++ b).size ≤ 400) := hab
      clear hab
      go_enter Try.func5, Try.ntmps5
      go_wp2_with fail
      refine (pplay_ok w s a hm HA.out).mono ?_
      rintro e w1 ⟨rfl, hf1, hsA⟩
      go_wp2_with fail
      refine (pplay_ok w1 s (a ++ b) hm HAB.out).mono ?_
      rintro e w2 ⟨rfl, hf2, hsB⟩
      go_wp2_with fail
      refine (pcheck_any w2 s hm).mono ?_
      rintro e w3 ⟨rfl, hf3⟩
      have HF : Hid (Fr (fun _ => False) w w3) := (hf1.thenr hf2 (fun _ _ h => h)).thenr hf3 (fun _ _ h => h)
      clear hf1 hf2 hf3
      go_wp2_with fail
      refine (lawNum_any _ _).mono ?_
      rintro e w4 ⟨rfl, rfl⟩
      by_cases hE : (unE s).1 = 0
      · have hne : (((unE s).1 : Int) != 0) = false := by rw [hE]; rfl
        obtain ⟨A, hA⟩ : ∃ A, pO s a = A := ⟨_, rfl⟩
        obtain ⟨B, hB⟩ : ∃ B, pO s (a ++ b) = B := ⟨_, rfl⟩
        obtain ⟨S, hS⟩ : ∃ S, pS s a = S := ⟨_, rfl⟩
        obtain ⟨T, hT⟩ : ∃ T, pS s (a ++ b) = T := ⟨_, rfl⟩
        have HPre : Hid (A.data.toList <+: B.data.toList) := by show _ <+: _; rw [← hA, ← hB]; exact pO_pre hE a b
        have HCt : Hid (B.data.toList.count 46 = a.size + b.size) := by show _ = _; rw [← hB, pO_count hE, ByteArray.size_append]
        have HS1 : Hid (S ≠ ⟨#[]⟩) := by show _ ≠ _; rw [← hS]; exact pS_ne hE a
        have HT1 : Hid (T ≠ ⟨#[]⟩) := by show _ ≠ _; rw [← hT]; exact pS_ne hE (a ++ b)
        have HST : Hid (b.size = 0 → S = T) := by
          intro h0
          have e : a ++ b = a := by
            apply ByteArray.ext
            rw [ByteArray.data_append]
            have : b.data = #[] := Array.eq_empty_of_size_eq_zero h0
            rw [this]; simp
          rw [← hS, ← hT, e]
        rw [hA, hB, hS, hT]
        rw [hA] at hsA
        rw [hB] at hsB
        have hab : a.size + b.size ≤ 400 := by omega
        clear hA hB hS hT hE
        go_wp2_with fail
        go_loopw [17, 18] (fun pt vi wr => ∃ k : Nat, k ≤ B.size ∧ vi = .int .i64 k ∧ pt = .int .i64 ((B.data.toList.take k).count 46) ∧ Fr (fun _ => False) w wr) (fun _ vi _ => B.size - (intOf vi).toNat)
        case atStart => exact ⟨0, Nat.zero_le _, rfl, rfl, HF.out⟩
        case round =>
          obtain ⟨k, hk, rfl, rfl, hfr⟩ := hrel
          by_cases hlt : (k : Int) < B.size
          · have hlt' : k < B.size := by omega
            have hle : (B.data.toList.take k).count 46 ≤ k := by
              have h1 := List.count_le_length (a := (46 : UInt8)) (l := B.data.toList.take k)
              rw [List.length_take] at h1
              omega
            have HTK : Hid ((B.data.toList.take (k + 1)).count 46 = (B.data.toList.take k).count 46 + (if B[k] = 46 then 1 else 0)) := by
              show _ = _
              have h1 : k < B.data.toList.length := hlt'
              rw [List.take_succ_eq_append_getElem h1, List.count_append, List.count_singleton]
              have h2 : B.data.toList[k] = B[k] := rfl
              rw [h2]
              by_cases e : B[k] = 46
              · simp [e]
              · simp [e]
            generalize (B.data.toList.take k).count 46 = c at *
            by_cases e : B[k] = 46
            · have HT2 : Hid ((B.data.toList.take (k + 1)).count 46 = c + 1) := by show _ = _; rw [HTK.out, if_pos e]
              have hb46 : ((B[k].toNat : Int) == 46) = true := by rw [e]; rfl
              clear HTK e
              go_wp2_with fail
              go_roundw
              case rel => exact ⟨k + 1, by omega, by go_num, by rw [HT2.out]; go_num, hfr⟩
              case measure => simp [intOf]; omega
            · have HT2 : Hid ((B.data.toList.take (k + 1)).count 46 = c) := by show _ = _; rw [HTK.out, if_neg e]; rfl
              have hb46 : ((B[k].toNat : Int) == 46) = false := by
                rw [beq_eq_false_iff_ne]; intro h; exact e (UInt8.toNat_inj.1 (by show _ = 46; omega))
              clear HTK e
              go_wp2_with fail
              go_roundw
              case rel => exact ⟨k + 1, by omega, by go_num, by rw [HT2.out], hfr⟩
              case measure => simp [intOf]; omega
          · have hkn : k = B.size := by omega
            subst hkn
            have HAll : Hid ((B.data.toList.take B.size).count 46 = a.size + b.size) := by
              show _ = _
              have h1 : B.data.toList.take B.size = B.data.toList := List.take_of_length_le (Nat.le_refl _)
              rw [h1]; exact HCt.out
            rw [HAll.out]
            have hAB : A.size ≤ B.size := HPre.out.length_le
            have dAB : decide ((B.size : Int) < A.size) = false := by simp; omega
            have HCut : Hid (B.extract 0 A.size = A) := by
              show _ = _
              apply ByteArray.ext
              rw [ByteArray.data_extract]
              apply Array.toList_inj.1
              rw [Array.toList_extract, List.extract_eq_take_drop]
              simp only [List.drop_zero, Nat.sub_zero]
              exact (List.prefix_iff_eq_take.1 HPre.out).symm
            clear HPre HCt HAll
            have hS0 : ¬ S.toList = [] := fun h => HS1.out (ne_data h)
            have hT0 : ¬ T.toList = [] := fun h => HT1.out (ne_data h)
            have hS1 : S.toList.isEmpty = false := by rw [List.isEmpty_eq_false_iff]; exact hS0
            have hT1 : T.toList.isEmpty = false := by rw [List.isEmpty_eq_false_iff]; exact hT0
            have hcut : (B.extract 0 A.size).toList = A.toList := by rw [HCut.out]
            have hAB2 : ¬ B.size < A.size := by omega
            by_cases hb0 : b.size = 0
            · obtain rfl := HST.out hb0
              have HFR : Hid (Fr (fun _ => False) w wr) := hfr
              go_wp2_with fail
              go_ret
              exact ⟨rfl, HFR.out⟩
            · have hb1 : 0 < b.size := by omega
              have HFR : Hid (Fr (fun _ => False) w wr) := hfr
              go_wp2_with fail
              go_ret
              exact ⟨rfl, HFR.out⟩
      · have hne : (((unE s).1 : Int) != 0) = true := by rw [bne_iff_ne]; omega
        have e1 : pO s a = ⟨#[]⟩ := by rw [pO, if_neg hE]
        have e2 : pO s (a ++ b) = ⟨#[]⟩ := by rw [pO, if_neg hE]
        rw [e1, e2]
        clear e1 e2 hE
        go_wp2_with fail
        go_ret
        exact ⟨rfl, HF.out⟩

open Go.ChangeShapes Go.WideShapes Go.ChangeAt
open Go.ChangeMaps (open_string shut_string)

set_option maxRecDepth 100000 in
theorem onward_lifted (os : Os) (started : os.Started) (H : Type) (enc : TypeId × Value → H) :
    ReturnsInHanded {} Try.checked os 5 .any (Rows.onwardSpec.pre6 enc Try.prog Try.f5 Rows.onwardRow.domain false) (Rows.onwardSpec.post enc Try.prog Try.f5 false true false false) := by
  refine returnsInHanded_of_change (C := Try.checked) own_knob started (by kernel_rfl) Try.func5
    (ChangeSpec.witness6 (enc := enc) (C := Try.checked) false ⟨#[], #[.string ByteArray.empty, .string ByteArray.empty, .string ByteArray.empty], []⟩ 8 (by kernel_rfl) (by kernel_rfl) (by kernel_rfl) (by kernel_rfl)) ?_
  intro W base args ds gs before hval0 hW hcnd _
  have hval : ∀ (j : Nat) t v, Try.f5.params[j]? = some t → args[j]? = some v → Value.okWide Try.prog W .any base t v := hval0
  have hW' := hW
  obtain ⟨p, q, hA0, hV, rfl, hfz, hnd⟩ := hW
  have hA : DataW.TrodAll enc Try.prog W 0 (fun _ => true) true Try.f5.params.toList args.toList ds p := hA0
  rw [Try.params5] at hA hval
  obtain ⟨v0, vs0, d0, ds0, p0, q0, hargs, rfl, rfl, h0, r0⟩ := trodAll_cons hA
  obtain ⟨v1, vs1, d1, ds1, p1, q1, hargs1, rfl, rfl, h1, r1⟩ := trodAll_cons r0
  obtain ⟨v2, vs2, d2, ds2, p2, q2, hargs2, rfl, rfl, h2, r2⟩ := trodAll_cons r1
  obtain ⟨rfl, rfl, rfl⟩ := trodAll_nil r2
  obtain rfl : args = #[v0, v1, v2] := by cases args; simp_all
  obtain ⟨rfl, rfl⟩ := trodVars_none hV
  obtain ⟨a0, rfl, rfl, rfl, w0⟩ := open_string Try.underlying9 (hval 0 9 v0 rfl rfl) h0
  obtain ⟨a1, rfl, rfl, rfl, w1⟩ := open_string Try.underlying9 (hval 1 9 v1 rfl rfl) h1
  obtain ⟨a2, rfl, rfl, rfl, w2⟩ := open_string Try.underlying9 (hval 2 9 v2 rfl rfl) h2
  clear hA0 hval0
  simp only [List.append_nil] at hW'
  refine (onward_walk a0 a1 a2 w0 w1 w2 W).mono fun e W' ⟨he, hg⟩ => ?_
  subst he
  have hB : Below W.heap.size W W' := hg.below W.heap.size (Nat.le_refl _) (fun _ h => h.elim)
  refine ⟨_, rfl, _, _, _, [], [], [], hW', ?_, ?_, ?_, hB.frame _, fun h => by cases h⟩
  · exact trodAll_cons_mk (shut_bool Try.underlying4 _) trodAll_mk0
  · exact trodAll_cons_mk (shut_string Try.underlying9 w0) (trodAll_cons_mk (shut_string Try.underlying9 w1) (trodAll_cons_mk (shut_string Try.underlying9 w2) trodAll_mk0))
  · rfl

theorem onward_over : Rows.onwardRow.holds Try.pinned (OpenSpec.ofChange Rows.onwardSpec) :=
  OpenClaim.holds_of_wide 5 Try.f5 rfl rfl rfl rfl rfl rfl rfl ⟨rfl, rfl, rfl, rfl, rfl⟩ rfl rfl rfl rfl rfl (by kernel_rfl) Try.func5 (by kernel_rfl)
    (of_decide_eq_true (by kernel_rfl)) (by unfold Func.isWrapper; first | (rw [if_pos (by decide +kernel)]; kernel_rfl) | (rw [if_neg (by decide +kernel)]; exact ⟨rfl, rfl⟩))
    (fun os started H enc _ => onward_lifted os started H enc)
end Go.Proofs.Ytmolmbeeoecnfaa
