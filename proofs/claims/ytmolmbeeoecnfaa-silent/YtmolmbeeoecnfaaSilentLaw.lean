/- Own work: the walk of the law Silent, and its row. -/
import Derived.Test.YtmolmbeeoecnfaaLawBase
import Derived.Test.YtmolmbeeoecnfaaSiD
namespace Go.Proofs.Ytmolmbeeoecnfaa
open Go.RowKit Go.BigFrame
set_option linter.unusedVariables false
set_option linter.unusedSimpArgs false

theorem ne_dataS {S : ByteArray} (h : S.toList = []) : S = ⟨#[]⟩ := by
  apply ByteArray.ext
  apply Array.toList_inj.1
  have h1 : S.toList = S.data.toList := ByteArray.toList_eq S
  rw [← h1, h]
theorem pts_at (n k : Nat) (h : k < (⟨(List.replicate n 46).toArray⟩ : ByteArray).size) : (⟨(List.replicate n 46).toArray⟩ : ByteArray)[k] = 46 := by
  have h1 : (List.replicate n (46 : UInt8)).toArray[k]'(by exact h) = 46 := by simp
  exact h1
theorem pts_size (n : Nat) : (⟨(List.replicate n 46).toArray⟩ : ByteArray).size = n := by
  show (List.replicate n (46 : UInt8)).toArray.size = n
  simp

set_option maxRecDepth 100000 in
set_option maxHeartbeats 1000000 in
theorem silent_walk (s a : ByteArray) (hm : s.size ≤ maxLen) (ha : a.size ≤ maxLen) (w : World) :
    Calls Try.prog 8 #[.string s, .string a] w fun e w' => e = .returned (.bool true) ∧ Fr (fun _ => False) w w' := by
  by_cases h400 : 400 < a.size
  · go_enter Try.func8, Try.ntmps8
    go_wp2_with fail
    refine (pplay_long w s a h400).mono ?_
    rintro e w1 ⟨rfl, hf1⟩
    go_wp2_with fail
    refine (lawNum_any _ _).mono ?_
    rintro e w2 ⟨rfl, rfl⟩
    go_wp2_with fail
    go_ret
    exact ⟨rfl, hf1⟩
  · have HA : Hid (a.size ≤ 400) := by show _ ≤ _; omega
    go_enter Try.func8, Try.ntmps8
    go_wp2_with fail
    refine (pplay_ok w s a hm HA.out).mono ?_
    rintro e w1 ⟨rfl, hf1, hs1⟩
    have HF1 : Hid _ := hf1
    clear hf1
    go_wp2_with fail
    refine (lawNum_any _ _).mono ?_
    rintro e w2 ⟨rfl, rfl⟩
    by_cases hE : (unE s).1 = 0
    · have hne : (((unE s).1 : Int) != 0) = false := by rw [hE]; rfl
      have h160 := (unE_ok hE).1
      have hle := strp_le s
      have HO : Hid _ := strip_out hE a
      have HS : Hid _ := strip_st hE a
      have HU : Hid _ := (un_strip hE).1
      have HNE : Hid _ := pS_ne hE a
      have HM : Hid ((strp s).size ≤ maxLen) := by show _ ≤ _; unfold maxLen; omega
      clear hE
      go_wp2_with fail
      refine (stripped_any w2 s (by omega)).mono ?_
      rintro e w3 ⟨rfl, hf3⟩
      have HF3 : Hid _ := HF1.out.thenr hf3 (fun _ _ h => h)
      clear hf3 HF1
      generalize hss : strp s = ss at *
      go_wp2_with fail
      refine (pplay_ok w3 ss a HM.out HA.out).mono ?_
      rintro e w4 ⟨rfl, hf4, hs4⟩
      have HF4 : Hid _ := HF3.out.thenr hf4 (fun _ _ h => h)
      clear hf4 HF3
      rw [HO.out, HS.out, HU.out]
      rw [HO.out] at hs4
      have hsz := pts_size a.size
      have HP : Hid (∀ (k : Nat) (h : k < (⟨(List.replicate a.size 46).toArray⟩ : ByteArray).size), (⟨(List.replicate a.size 46).toArray⟩ : ByteArray)[k] = 46) := fun k h => pts_at a.size k h
      have HSZ : Hid _ := hsz
      have hS1 : (pS s a).toList.isEmpty = false := by rw [List.isEmpty_eq_false_iff]; exact fun h => HNE.out (ne_dataS h)
      clear HO HS HU HNE hsz
      generalize (⟨(List.replicate a.size 46).toArray⟩ : ByteArray) = P at *
      generalize pS s a = S at *
      generalize pO s a = A at *
      go_wp2_with fail
      go_loopw [13] (fun vi wr => ∃ k : Nat, k ≤ P.size ∧ vi = .int .i64 k ∧ Fr (fun _ => False) w wr) (fun vi _ => P.size - (intOf vi).toNat)
      case atStart => exact ⟨0, Nat.zero_le _, rfl, HF4.out⟩
      case round =>
        obtain ⟨k, hk, rfl, hfr⟩ := hrel
        by_cases hlt : (k : Int) < P.size
        · have hlt' : k < P.size := by omega
          have heq : ((P[k].toNat : Int) != 46) = false := by rw [HP.out k hlt']; rfl
          go_wp2_with fail
          go_roundw
          case rel => exact ⟨k + 1, by omega, by go_num, hfr⟩
          case measure => simp [intOf]; omega
        · have HFR : Hid _ := hfr
          have hPa : P.size = a.size := HSZ.out
          clear hfr
          go_wp2_with fail
          refine (lawNum_any _ _).mono ?_
          rintro e w5 ⟨rfl, rfl⟩
          go_wp2_with fail
          go_ret
          exact ⟨rfl, HFR.out⟩
    · have hne : (((unE s).1 : Int) != 0) = true := by rw [bne_iff_ne]; omega
      have e1 : pS s a = ⟨#[]⟩ := by rw [pS, if_neg hE]
      rw [e1]
      clear hE e1
      go_wp2_with fail
      go_ret
      exact ⟨rfl, HF1.out⟩

open Go.ChangeShapes Go.WideShapes Go.ChangeAt
open Go.ChangeMaps (open_string shut_string)

set_option maxRecDepth 100000 in
theorem silent_lifted (os : Os) (started : os.Started) (H : Type) (enc : TypeId × Value → H) :
    ReturnsInHanded {} Try.checked os 8 .any (Rows.silentSpec.pre6 enc Try.prog Try.f8 Rows.silentRow.domain false) (Rows.silentSpec.post enc Try.prog Try.f8 false true false false) := by
  refine returnsInHanded_of_change (C := Try.checked) own_knob started (by kernel_rfl) Try.func8
    (ChangeSpec.witness6 (enc := enc) (C := Try.checked) false ⟨#[], #[.string ByteArray.empty, .string ByteArray.empty], []⟩ 8 (by kernel_rfl) (by kernel_rfl) (by kernel_rfl) (by kernel_rfl)) ?_
  intro W base args ds gs before hval0 hW hcnd _
  have hval : ∀ (j : Nat) t v, Try.f8.params[j]? = some t → args[j]? = some v → Value.okWide Try.prog W .any base t v := hval0
  have hW' := hW
  obtain ⟨p, q, hA0, hV, rfl, hfz, hnd⟩ := hW
  have hA : DataW.TrodAll enc Try.prog W 0 (fun _ => true) true Try.f8.params.toList args.toList ds p := hA0
  rw [Try.params8] at hA hval
  obtain ⟨v0, vs0, d0, ds0, p0, q0, hargs, rfl, rfl, h0, r0⟩ := trodAll_cons hA
  obtain ⟨v1, vs1, d1, ds1, p1, q1, hargs1, rfl, rfl, h1, r1⟩ := trodAll_cons r0
  obtain ⟨rfl, rfl, rfl⟩ := trodAll_nil r1
  obtain rfl : args = #[v0, v1] := by cases args; simp_all
  obtain ⟨rfl, rfl⟩ := trodVars_none hV
  obtain ⟨a0, rfl, rfl, rfl, w0⟩ := open_string Try.underlying9 (hval 0 9 v0 rfl rfl) h0
  obtain ⟨a1, rfl, rfl, rfl, w1⟩ := open_string Try.underlying9 (hval 1 9 v1 rfl rfl) h1
  clear hA0 hval0
  simp only [List.append_nil] at hW'
  refine (silent_walk a0 a1 w0 w1 W).mono fun e W' ⟨he, hg⟩ => ?_
  subst he
  have hB : Below W.heap.size W W' := hg.below W.heap.size (Nat.le_refl _) (fun _ h => h.elim)
  refine ⟨_, rfl, _, _, _, [], [], [], hW', ?_, ?_, ?_, hB.frame _, fun h => by cases h⟩
  · exact trodAll_cons_mk (shut_bool Try.underlying4 _) trodAll_mk0
  · exact trodAll_cons_mk (shut_string Try.underlying9 w0) (trodAll_cons_mk (shut_string Try.underlying9 w1) trodAll_mk0)
  · rfl

theorem silent_over : Rows.silentRow.holds Try.pinned (OpenSpec.ofChange Rows.silentSpec) :=
  OpenClaim.holds_of_wide 8 Try.f8 rfl rfl rfl rfl rfl rfl rfl ⟨rfl, rfl, rfl, rfl, rfl⟩ rfl rfl rfl rfl rfl (by kernel_rfl) Try.func8 (by kernel_rfl)
    (of_decide_eq_true (by kernel_rfl)) (by unfold Func.isWrapper; first | (rw [if_pos (by decide +kernel)]; kernel_rfl) | (rw [if_neg (by decide +kernel)]; exact ⟨rfl, rfl⟩))
    (fun os started H enc _ => silent_lifted os started H enc)
end Go.Proofs.Ytmolmbeeoecnfaa
