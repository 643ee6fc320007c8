/- Own work: the walk of the law Plays, and its row. -/
import Derived.Test.YtmolmbeeoecnfaaLawBase
import Derived.Test.YtmolmbeeoecnfaaPh2
namespace Go.Proofs.Ytmolmbeeoecnfaa
open Go.RowKit Go.BigFrame
set_option linter.unusedVariables false
set_option linter.unusedSimpArgs false

set_option maxRecDepth 100000 in
set_option maxHeartbeats 1000000 in
theorem plays_walk (s a : ByteArray) (hm : s.size ≤ maxLen) (ha : a.size ≤ maxLen) (w : World) :
    Calls Try.prog 4 #[.string s, .string a] w fun e w' => e = .returned (.bool true) ∧ Fr (fun _ => False) w w' := by
  by_cases h400 : 400 < a.size
  · have H4 : Hid (400 < a.size) := h400
    clear h400
    go_enter Try.func4, Try.ntmps4
    go_wp2_with fail
    refine (pplay_long w s a H4.out).mono ?_
    rintro e w1 ⟨rfl, hf1⟩
    go_wp2_with fail
    refine (dplay_long w1 s a hm H4.out).mono ?_
    rintro e w2 ⟨rfl, hf2⟩
    have hf3 := hf1.thenr hf2 (fun _ _ h => h)
    go_wp2_with fail
    refine (lawNum_any _ _).mono ?_
    rintro e w3 ⟨rfl, rfl⟩
    go_wp2_with fail
    go_ret
    exact ⟨rfl, hf3⟩
  · have HA : Hid (a.size ≤ 400) := by show _ ≤ _; omega
    have HC : Hid (unE s = ((rdE s).1, ((rdE s).2 : Int))) := check_eq s
    clear h400
    go_enter Try.func4, Try.ntmps4
    go_wp2_with fail
    refine (pplay_ok w s a hm HA.out).mono ?_
    rintro e w1 ⟨rfl, hf1, -⟩
    rw [HC.out]
    go_wp2_with fail
    refine (dplay_any w1 s a hm HA.out).mono ?_
    rintro e w2 ⟨rfl, hf2⟩
    have hf3 := hf1.thenr hf2 (fun _ _ h => h)
    clear HC hf1 hf2
    generalize (rdE s).1 = E1 at *
    generalize (rdE s).2 = E2 at *
    generalize pO s a = O at *
    generalize pS s a = S at *
    go_wp2_with fail
    refine (lawNum_any _ _).mono ?_
    rintro e w3 ⟨rfl, rfl⟩
    go_wp2_with fail
    go_ret
    exact ⟨rfl, hf3⟩

open Go.ChangeShapes Go.WideShapes Go.ChangeAt
open Go.ChangeMaps (open_string shut_string)

set_option maxRecDepth 100000 in
theorem plays_lifted (os : Os) (started : os.Started) (H : Type) (enc : TypeId × Value → H) :
    ReturnsInHanded {} Try.checked os 4 .any (Rows.playsSpec.pre6 enc Try.prog Try.f4 Rows.playsRow.domain false) (Rows.playsSpec.post enc Try.prog Try.f4 false true false false) := by
  refine returnsInHanded_of_change (C := Try.checked) own_knob started (by kernel_rfl) Try.func4
    (ChangeSpec.witness6 (enc := enc) (C := Try.checked) false ⟨#[], #[.string ByteArray.empty, .string ByteArray.empty], []⟩ 8 (by kernel_rfl) (by kernel_rfl) (by kernel_rfl) (by kernel_rfl)) ?_
  intro W base args ds gs before hval0 hW hcnd _
  have hval : ∀ (j : Nat) t v, Try.f4.params[j]? = some t → args[j]? = some v → Value.okWide Try.prog W .any base t v := hval0
  have hW' := hW
  obtain ⟨p, q, hA0, hV, rfl, hfz, hnd⟩ := hW
  have hA : DataW.TrodAll enc Try.prog W 0 (fun _ => true) true Try.f4.params.toList args.toList ds p := hA0
  rw [Try.params4] at hA hval
  obtain ⟨v0, vs0, d0, ds0, p0, q0, hargs, rfl, rfl, h0, r0⟩ := trodAll_cons hA
  obtain ⟨v1, vs1, d1, ds1, p1, q1, hargs1, rfl, rfl, h1, r1⟩ := trodAll_cons r0
  obtain ⟨rfl, rfl, rfl⟩ := trodAll_nil r1
  obtain rfl : args = #[v0, v1] := by cases args; simp_all
  obtain ⟨rfl, rfl⟩ := trodVars_none hV
  obtain ⟨a0, rfl, rfl, rfl, w0⟩ := open_string Try.underlying9 (hval 0 9 v0 rfl rfl) h0
  obtain ⟨a1, rfl, rfl, rfl, w1⟩ := open_string Try.underlying9 (hval 1 9 v1 rfl rfl) h1
  clear hA0 hval0
  simp only [List.append_nil] at hW'
  refine (plays_walk a0 a1 w0 w1 W).mono fun e W' ⟨he, hg⟩ => ?_
  subst he
  have hB : Below W.heap.size W W' := hg.below W.heap.size (Nat.le_refl _) (fun _ h => h.elim)
  refine ⟨_, rfl, _, _, _, [], [], [], hW', ?_, ?_, ?_, hB.frame _, fun h => by cases h⟩
  · exact trodAll_cons_mk (shut_bool Try.underlying4 _) trodAll_mk0
  · exact trodAll_cons_mk (shut_string Try.underlying9 w0) (trodAll_cons_mk (shut_string Try.underlying9 w1) trodAll_mk0)
  · rfl

theorem plays_over : Rows.playsRow.holds Try.pinned (OpenSpec.ofChange Rows.playsSpec) :=
  OpenClaim.holds_of_wide 4 Try.f4 rfl rfl rfl rfl rfl rfl rfl ⟨rfl, rfl, rfl, rfl, rfl⟩ rfl rfl rfl rfl rfl (by kernel_rfl) Try.func4 (by kernel_rfl)
    (of_decide_eq_true (by kernel_rfl)) (by unfold Func.isWrapper; first | (rw [if_pos (by decide +kernel)]; kernel_rfl) | (rw [if_neg (by decide +kernel)]; exact ⟨rfl, rfl⟩))
    (fun os started H enc _ => plays_lifted os started H enc)
end Go.Proofs.Ytmolmbeeoecnfaa
