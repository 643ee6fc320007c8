/- Own work: the law Within, and its row. -/
import Derived.Test.YtmolmbeeoecnfaaWiZ
import Derived.Test.YtmolmbeeoecnfaaWiW
import Derived.Test.YtmolmbeeoecnfaaLgD
namespace Go.Proofs.Ytmolmbeeoecnfaa
open Go.RowKit Go.BigFrame
set_option linter.unusedVariables false
set_option linter.unusedSimpArgs false

set_option maxRecDepth 100000 in
set_option maxHeartbeats 1000000 in
theorem within_skip (s a : ByteArray) (hm : s.size ≤ maxLen) (hq : (rdE s).1 ≠ 0 ∨ 157 < s.size ∨ 400 < a.size) (w : World) :
    Calls Try.prog 9 #[.string s, .string a] w fun e w' => e = .returned (.bool true) ∧ Fr (fun _ => False) w w' := by
  go_enter Try.func9, Try.ntmps9
  go_wp2_with fail
  refine (read_any w s hm).mono ?_
  rintro e w2 ⟨⟨v3, v4, v5, v6⟩, rfl, ⟨⟨a3, n3, c3, e3⟩, ⟨a4, n4, c4, e4⟩, ⟨a5, n5, c5, e5⟩, ⟨a6, n6, c6, e6⟩⟩, hf2, -⟩
  simp only at e3 e4 e5 e6
  subst e3 e4 e5 e6
  have HFA : Hid _ := hf2.allocr (.cells #[.slice a3 n3 c3, .slice a4 n4 c4, .slice a5 n5 c5, .slice a6 n6 c6] 39)
  clear hf2
  by_cases hE : (rdE s).1 = 0
  · have hne : (((rdE s).1 : Int) != 0) = false := by rw [hE]; rfl
    by_cases h1 : (157 : Int) < s.size
    · clear hq
      go_wp2_with fail
      go_ret
      exact ⟨rfl, HFA.out⟩
    · have h1' : decide ((157 : Int) < s.size) = false := by simpa using h1
      have h2 : (400 : Int) < a.size := by rcases hq with h | h | h <;> omega
      clear hq
      go_wp2_with fail
      go_ret
      exact ⟨rfl, HFA.out⟩
  · have hne : (((rdE s).1 : Int) != 0) = true := by rw [bne_iff_ne]; omega
    clear hq
    go_wp2_with fail
    go_ret
    exact ⟨rfl, HFA.out⟩

theorem wiOk_of {s : ByteArray} {c : UInt8} (hU : (unE s).1 = 0) (h157 : s.size ≤ 157) (h : WiC0 (rd s).st (rd s).tr c) : WiOk c s := by
  obtain ⟨h160, hK, hw, hv, hm⟩ := unE_ok hU
  have hok : (rcR s).1 = true := by
    simp only [rcK, Bool.and_eq_true] at hK
    exact hK.1
  have hM := (rd_eq s).1 hok
  have hk := un_lk hU
  have hp := plan_ok s hU
  have hs0 := hp.s0
  obtain ⟨x0, hx0⟩ : ∃ x, (rd s).st[0]? = some x := ⟨_, List.getElem?_eq_getElem (by rw [hk.len]; exact hs0)⟩
  obtain ⟨e1, e2, e3⟩ := hk.en 0 x0 hx0
  refine ⟨hU, ?_, fun x hx hn => ?_, fun x hx => ?_, h157, by rw [← e2]; exact h.kd x0 hx0, fun q hq => ?_⟩
  · have h1 := h.lo
    have h2 := h.hi
    unfold isN
    simp only [Bool.and_eq_true, decide_eq_true_eq]
    exact ⟨UInt8.le_iff_toNat_le.2 (by show 65 ≤ c.toNat; omega), UInt8.le_iff_toNat_le.2 (by show c.toNat ≤ 90; omega)⟩
  · have h1 := h.nm
    have h2 : hasB (nmS (rd s).st (rd s).st.length) c = true := by
      rw [hasB_mem]
      unfold nmS
      rw [List.take_of_length_le (Nat.le_refl _), hM.st, List.map_map]
      show c ∈ (List.map _ _)
      exact List.mem_map.2 ⟨x, hx, hn⟩
    rw [h2] at h1; cases h1
  · obtain ⟨k, hk2⟩ := List.mem_iff_getElem?.1 hx
    exact h.dp k (toR x) (by rw [hM.st, List.getElem?_map, hk2]; rfl)
  · obtain ⟨k, hk2⟩ := List.mem_iff_getElem?.1 hq
    have h1 := h.tr k (toTr q) x0 (by rw [hM.tr, List.getElem?_map, hk2]; rfl) hx0
    rw [e3] at h1
    exact h1
theorem within_all (s a : ByteArray) (hm : s.size ≤ maxLen) (w : World) :
    Calls Try.prog 9 #[.string s, .string a] w fun e w' => e = .returned (.bool true) ∧ Fr (fun _ => False) w w' := by
  by_cases hq : (rdE s).1 ≠ 0 ∨ 157 < s.size ∨ 400 < a.size
  · exact within_skip s a hm hq w
  · have hE : (rdE s).1 = 0 := by
      rcases Decidable.em ((rdE s).1 = 0) with e | e
      · exact e
      · exact absurd (Or.inl e) hq
    have h157 : s.size ≤ 157 := by
      by_cases e : 157 < s.size
      · exact absurd (Or.inr (Or.inl e)) hq
      · omega
    have h400 : a.size ≤ 400 := by
      by_cases e : 400 < a.size
      · exact absurd (Or.inr (Or.inr e)) hq
      · omega
    have hU : (unE s).1 = 0 := by rw [check_eq s]; exact hE
    have hp := plan_ok s hU
    have hk := un_lk hU
    obtain ⟨t1, -⟩ := st_text hU a
    have h2 := (rd_goes s).inv.tr
    have h3 := (rd_goes s).inv.i
    refine within_walk s a (pO s a) (pS s a) (unE s).2 hm hE h157 h400 t1 (pS_ne hU a) (by rw [hk.len]; exact hp.s0) (by rw [hk.len]; exact hp.wf.len) (by omega) ?_ ?_ w
    · intro w
      refine (pplay_ok w s a hm h400).mono (fun e w' h => ⟨?_, h.2.1⟩)
      rw [h.1, hU]; rfl
    · intro c hc w
      obtain ⟨p1, p2, p3⟩ := (wiOk_of hU h157 hc).play a
      have hsz := wrp_sz c s
      have h4 := pplay_ok w (wrp c s) a (by unfold maxLen; omega) h400
      rw [p1, p2, p3] at h4
      exact h4.mono (fun e w' h => ⟨h.1, h.2.1⟩)

open Go.ChangeShapes Go.WideShapes Go.ChangeAt
open Go.ChangeMaps (open_string shut_string)

set_option maxRecDepth 100000 in
theorem within_lifted (os : Os) (started : os.Started) (H : Type) (enc : TypeId × Value → H) :
    ReturnsInHanded {} Try.checked os 9 .any (Rows.withinSpec.pre6 enc Try.prog Try.f9 Rows.withinRow.domain false) (Rows.withinSpec.post enc Try.prog Try.f9 false true false false) := by
  refine returnsInHanded_of_change (C := Try.checked) own_knob started (by kernel_rfl) Try.func9
    (ChangeSpec.witness6 (enc := enc) (C := Try.checked) false ⟨#[], #[.string ByteArray.empty, .string ByteArray.empty], []⟩ 8 (by kernel_rfl) (by kernel_rfl) (by kernel_rfl) (by kernel_rfl)) ?_
  intro W base args ds gs before hval0 hW hcnd _
  have hval : ∀ (j : Nat) t v, Try.f9.params[j]? = some t → args[j]? = some v → Value.okWide Try.prog W .any base t v := hval0
  have hW' := hW
  obtain ⟨p, q, hA0, hV, rfl, hfz, hnd⟩ := hW
  have hA : DataW.TrodAll enc Try.prog W 0 (fun _ => true) true Try.f9.params.toList args.toList ds p := hA0
  rw [Try.params9] at hA hval
  obtain ⟨v0, vs0, d0, ds0, p0, q0, hargs, rfl, rfl, h0, r0⟩ := trodAll_cons hA
  obtain ⟨v1, vs1, d1, ds1, p1, q1, hargs1, rfl, rfl, h1, r1⟩ := trodAll_cons r0
  obtain ⟨rfl, rfl, rfl⟩ := trodAll_nil r1
  obtain rfl : args = #[v0, v1] := by cases args; simp_all
  obtain ⟨rfl, rfl⟩ := trodVars_none hV
  obtain ⟨a0, rfl, rfl, rfl, w0⟩ := open_string Try.underlying9 (hval 0 9 v0 rfl rfl) h0
  obtain ⟨a1, rfl, rfl, rfl, w1⟩ := open_string Try.underlying9 (hval 1 9 v1 rfl rfl) h1
  clear hA0 hval0
  simp only [List.append_nil] at hW'
  refine (within_all a0 a1 w0 W).mono fun e W' ⟨he, hg⟩ => ?_
  subst he
  have hB : Below W.heap.size W W' := hg.below W.heap.size (Nat.le_refl _) (fun _ h => h.elim)
  refine ⟨_, rfl, _, _, _, [], [], [], hW', ?_, ?_, ?_, hB.frame _, fun h => by cases h⟩
  · exact trodAll_cons_mk (shut_bool Try.underlying4 _) trodAll_mk0
  · exact trodAll_cons_mk (shut_string Try.underlying9 w0) (trodAll_cons_mk (shut_string Try.underlying9 w1) trodAll_mk0)
  · rfl

theorem within_over : Rows.withinRow.holds Try.pinned (OpenSpec.ofChange Rows.withinSpec) :=
  OpenClaim.holds_of_wide 9 Try.f9 rfl rfl rfl rfl rfl rfl rfl ⟨rfl, rfl, rfl, rfl, rfl⟩ rfl rfl rfl rfl rfl (by kernel_rfl) Try.func9 (by kernel_rfl)
    (of_decide_eq_true (by kernel_rfl)) (by unfold Func.isWrapper; first | (rw [if_pos (by decide +kernel)]; kernel_rfl) | (rw [if_neg (by decide +kernel)]; exact ⟨rfl, rfl⟩))
    (fun os started H enc _ => within_lifted os started H enc)
end Go.Proofs.Ytmolmbeeoecnfaa
