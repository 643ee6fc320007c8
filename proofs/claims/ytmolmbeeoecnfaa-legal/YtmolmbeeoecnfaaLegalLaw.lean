/- Own work: the law Legal, and its row. -/
import Derived.Test.YtmolmbeeoecnfaaLgD
namespace Go.Proofs.Ytmolmbeeoecnfaa
open Go.RowKit Go.BigFrame
set_option linter.unusedVariables false
set_option linter.unusedSimpArgs false

set_option maxRecDepth 100000 in
set_option maxHeartbeats 1000000 in
theorem legal_bad (s a S O : ByteArray) (eN : Nat) (eP : Int) (hm : s.size ≤ maxLen) (hs0 : S = ⟨#[]⟩) (hN : eN ≠ 0) (hw : (rdE s).1 ≠ 0 ∨ 400 < a.size)
    (hplay : ∀ w, Calls Try.prog 16 #[.string s, .string a] w fun e w' => e = .returned (.tuple #[.string O, .string S, .int .i64 eN, .int .i64 eP]) ∧ Fr (fun _ => False) w w') (w : World) :
    Calls Try.prog 7 #[.string s, .string a] w fun e w' => e = .returned (.bool true) ∧ Fr (fun _ => False) w w' := by
  have HP : Hid _ := hplay
  have hne : ((eN : Int) != 0) = true := by rw [bne_iff_ne]; omega
  subst hs0
  clear hplay hN
  go_enter Try.func7, Try.ntmps7
  go_wp2_with fail
  refine (HP.out w).mono ?_
  rintro e w1 ⟨rfl, hf1⟩
  go_wp2_with fail
  refine (read_any w1 s hm).mono ?_
  rintro e w2 ⟨⟨v3, v4, v5, v6⟩, rfl, ⟨⟨a3, n3, c3, e3⟩, ⟨a4, n4, c4, e4⟩, ⟨a5, n5, c5, e5⟩, ⟨a6, n6, c6, e6⟩⟩, hf2, -⟩
  simp only at e3 e4 e5 e6
  subst e3 e4 e5 e6
  have HFA : Hid _ := (hf1.thenr hf2 (fun _ _ h => h)).allocr (.cells #[.slice a3 n3 c3, .slice a4 n4 c4, .slice a5 n5 c5, .slice a6 n6 c6] 39)
  clear hf1 hf2
  go_wp2_with fail
  refine (lawNum_any _ _).mono ?_
  rintro e w4 ⟨rfl, rfl⟩
  by_cases hE : (rdE s).1 = 0
  · have h4 : (400 : Int) < a.size := by rcases hw with h | h <;> omega
    have hq : (((rdE s).1 : Int) != 0) = false := by rw [hE]; rfl
    clear hw hE
    go_wp2_with fail
    go_ret
    exact ⟨rfl, HFA.out⟩
  · have hq : (((rdE s).1 : Int) != 0) = true := by rw [bne_iff_ne]; omega
    clear hw hE
    go_wp2_with fail
    go_ret
    exact ⟨rfl, HFA.out⟩

theorem legal_all (s a : ByteArray) (hm : s.size ≤ maxLen) (w : World) :
    Calls Try.prog 7 #[.string s, .string a] w fun e w' => e = .returned (.bool true) ∧ Fr (fun _ => False) w w' := by
  by_cases h400 : 400 < a.size
  · exact legal_bad s a _ _ 1 0 hm rfl (by decide) (Or.inr h400) (fun w => pplay_long w s a h400) w
  · have hp : ∀ w, Calls Try.prog 16 #[.string s, .string a] w fun e w' => e = .returned (.tuple #[.string (pO s a), .string (pS s a), .int .i64 (unE s).1, .int .i64 (unE s).2]) ∧ Fr (fun _ => False) w w' := fun w => (pplay_ok w s a hm (by omega)).mono (fun e w' h => ⟨h.1, h.2.1⟩)
    by_cases hU : (unE s).1 = 0
    · have hE : (rdE s).1 = 0 := by have := check_eq s; rw [this] at hU; exact hU
      obtain ⟨t1, t2, t3, t4, t5⟩ := st_text hU a
      exact legal_walk s a (pS s a) (pO s a) (onT s a) (unE s).2 hm hE (fun w => by have h := hp w; rw [hU] at h; exact h) t1 t2 t3 t4 t5 (leg_ok hU a) w
    · exact legal_bad s a (pS s a) (pO s a) (unE s).1 (unE s).2 hm (by rw [pS, if_neg hU]) hU (Or.inl (by have := check_eq s; rw [this] at hU; exact hU)) hp w

open Go.ChangeShapes Go.WideShapes Go.ChangeAt
open Go.ChangeMaps (open_string shut_string)

set_option maxRecDepth 100000 in
theorem legal_lifted (os : Os) (started : os.Started) (H : Type) (enc : TypeId × Value → H) :
    ReturnsInHanded {} Try.checked os 7 .any (Rows.legalSpec.pre6 enc Try.prog Try.f7 Rows.legalRow.domain false) (Rows.legalSpec.post enc Try.prog Try.f7 false true false false) := by
  refine returnsInHanded_of_change (C := Try.checked) own_knob started (by kernel_rfl) Try.func7
    (ChangeSpec.witness6 (enc := enc) (C := Try.checked) false ⟨#[], #[.string ByteArray.empty, .string ByteArray.empty], []⟩ 8 (by kernel_rfl) (by kernel_rfl) (by kernel_rfl) (by kernel_rfl)) ?_
  intro W base args ds gs before hval0 hW hcnd _
  have hval : ∀ (j : Nat) t v, Try.f7.params[j]? = some t → args[j]? = some v → Value.okWide Try.prog W .any base t v := hval0
  have hW' := hW
  obtain ⟨p, q, hA0, hV, rfl, hfz, hnd⟩ := hW
  have hA : DataW.TrodAll enc Try.prog W 0 (fun _ => true) true Try.f7.params.toList args.toList ds p := hA0
  rw [Try.params7] at hA hval
  obtain ⟨v0, vs0, d0, ds0, p0, q0, hargs, rfl, rfl, h0, r0⟩ := trodAll_cons hA
  obtain ⟨v1, vs1, d1, ds1, p1, q1, hargs1, rfl, rfl, h1, r1⟩ := trodAll_cons r0
  obtain ⟨rfl, rfl, rfl⟩ := trodAll_nil r1
  obtain rfl : args = #[v0, v1] := by cases args; simp_all
  obtain ⟨rfl, rfl⟩ := trodVars_none hV
  obtain ⟨a0, rfl, rfl, rfl, w0⟩ := open_string Try.underlying9 (hval 0 9 v0 rfl rfl) h0
  obtain ⟨a1, rfl, rfl, rfl, w1⟩ := open_string Try.underlying9 (hval 1 9 v1 rfl rfl) h1
  clear hA0 hval0
  simp only [List.append_nil] at hW'
  refine (legal_all a0 a1 w0 W).mono fun e W' ⟨he, hg⟩ => ?_
  subst he
  have hB : Below W.heap.size W W' := hg.below W.heap.size (Nat.le_refl _) (fun _ h => h.elim)
  refine ⟨_, rfl, _, _, _, [], [], [], hW', ?_, ?_, ?_, hB.frame _, fun h => by cases h⟩
  · exact trodAll_cons_mk (shut_bool Try.underlying4 _) trodAll_mk0
  · exact trodAll_cons_mk (shut_string Try.underlying9 w0) (trodAll_cons_mk (shut_string Try.underlying9 w1) trodAll_mk0)
  · rfl

theorem legal_over : Rows.legalRow.holds Try.pinned (OpenSpec.ofChange Rows.legalSpec) :=
  OpenClaim.holds_of_wide 7 Try.f7 rfl rfl rfl rfl rfl rfl rfl ⟨rfl, rfl, rfl, rfl, rfl⟩ rfl rfl rfl rfl rfl (by kernel_rfl) Try.func7 (by kernel_rfl)
    (of_decide_eq_true (by kernel_rfl)) (by unfold Func.isWrapper; first | (rw [if_pos (by decide +kernel)]; kernel_rfl) | (rw [if_neg (by decide +kernel)]; exact ⟨rfl, rfl⟩))
    (fun os started H enc _ => legal_lifted os started H enc)
end Go.Proofs.Ytmolmbeeoecnfaa
