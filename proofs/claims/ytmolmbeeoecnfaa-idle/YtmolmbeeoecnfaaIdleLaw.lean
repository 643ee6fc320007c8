/- Own work: the walk of the law Idle, and its row. -/
import Derived.Test.YtmolmbeeoecnfaaLawBase
import Derived.Test.YtmolmbeeoecnfaaIdA
import Derived.SizedLaws
namespace Go.Proofs.Ytmolmbeeoecnfaa
open Go.RowKit Go.BigFrame
set_option linter.unusedVariables false
set_option linter.unusedSimpArgs false

theorem conv_one_to (w : World) (n : Nat) (hn : n = w.heap.size) (c : UInt8) :
    Sem.run Try.prog (convert 43 9 (.slice (some ⟨n, 0, none⟩) 1 1)) (w.alloc (.cells #[.int .u8 c.toNat] 5)) = .ok (.string ⟨#[c]⟩) (w.alloc (.cells #[.int .u8 c.toNat] 5)) := by
  subst hn; exact conv_one w c
theorem ne_dataI {S : ByteArray} (h : S.toList = []) : S = ⟨#[]⟩ := by
  apply ByteArray.ext
  apply Array.toList_inj.1
  have h1 : S.toList = S.data.toList := ByteArray.toList_eq S
  rw [← h1, h]
theorem not_mem_of {e : ByteArray} {c : UInt8} (h : ∀ i, i < e.size → byte e i ≠ c) : c ∉ e.data.toList := by
  intro hm
  obtain ⟨k, hk⟩ := List.mem_iff_getElem?.1 hm
  obtain ⟨h1, h2⟩ := List.getElem?_eq_some_iff.1 hk
  have h3 : k < e.size := h1
  exact h k h3 (by rw [byte_in e k h3]; exact h2)

set_option maxRecDepth 100000 in
set_option maxHeartbeats 1000000 in
theorem idle_walk (s a b : ByteArray) (c : UInt8) (hm : s.size ≤ maxLen) (ha : a.size ≤ 200000000000000) (hb : b.size ≤ 200000000000000) (w : World) :
    Calls Try.prog 6 #[.string s, .string a, .int .u8 c.toNat, .string b] w fun e w' => e = .returned (.bool true) ∧ Fr (fun _ => False) w w' := by
  by_cases h400 : (400 : Int) ≤ (a.size : Int) + b.size
  · go_enter Try.func6, Try.ntmps6
    go_wp2_with fail
    go_ret
    exact ⟨rfl, Fr.refl _ _⟩
  · have d400 : decide ((400 : Int) ≤ (a.size : Int) + b.size) = false := by simpa using h400
    have HA : Hid (a.size ≤ 400) := by show _ ≤ _; omega
    have HAC : Hid ((a ++ ⟨#[c]⟩ : ByteArray).size ≤ 400) := by show _ ≤ _; rw [ByteArray.size_append]; show a.size + 1 ≤ 400; omega
    have HACB : Hid ((a ++ ⟨#[c]⟩ ++ b : ByteArray).size ≤ 400) := by show _ ≤ _; rw [ByteArray.size_append, ByteArray.size_append]; show a.size + 1 + b.size ≤ 400; omega
    have HAB : Hid ((a ++ b).size ≤ 400) := by show _ ≤ _; rw [ByteArray.size_append]; omega
    go_enter Try.func6, Try.ntmps6
    go_wp2_with fail
    refine (read_any w s hm).mono ?_
    rintro e w1 ⟨⟨v3, v4, v5, v6⟩, rfl, ⟨⟨a3, n3, c3, e3⟩, ⟨a4, n4, c4, e4⟩, ⟨a5, n5, c5, e5⟩, ⟨a6, n6, c6, e6⟩⟩, hf1, hch⟩
    simp only at e3 e4 e5 e6
    subst e3 e4 e5 e6
    have HEQ : Hid (unE s = ((rdE s).1, ((rdE s).2 : Int))) := check_eq s
    by_cases hE : (rdE s).1 = 0
    · have hne : (((rdE s).1 : Int) != 0) = false := by rw [hE]; rfl
      have hU : (unE s).1 = 0 := by rw [HEQ.out]; exact hE
      have HU : Hid ((unE s).1 = 0) := hU
      have hch2 := hch hE
      have HCH : Hid _ := hch2
      have hbk := Blk.new w1 #[.slice a3 n3 c3, .slice a4 n4 c4, .slice a5 n5 c5, .slice a6 n6 c6] 39
      have HBK : Hid _ := hbk
      have HR4 : Hid _ := row_fr hch2.r4 (Fr.alloc (fun _ => False) w1 (.cells #[.slice a3 n3 c3, .slice a4 n4 c4, .slice a5 n5 c5, .slice a6 n6 c6] 39)) (fun _ _ h => h)
      have HF1 : Hid _ := hf1.allocr (.cells #[.slice a3 n3 c3, .slice a4 n4 c4, .slice a5 n5 c5, .slice a6 n6 c6] 39)
      have HTL : Hid ((rd s).tr.length ≤ 1000000) := by
        show _ ≤ _
        have h1 := (unE_ok hU).1
        have h2 := (rd_goes s).inv.tr
        have h3 := (rd_goes s).inv.i
        omega
      clear hch hE hU hch2 hbk HEQ hf1
      go_wp2_with fail
      refine (events_any _ w1.heap.size _ _ _ _ (rd s).tr HBK.out HR4.out HTL.out).mono ?_
      rintro e w2 ⟨rfl, hf2⟩
      have HF2 : Hid (Fr (fun _ => False) w w2) := HF1.out.thenr hf2 (fun _ _ h => h)
      clear hf2 HF1 HR4 HBK HCH HTL
      have hevs := evK_size (rd s).tr 26
      obtain ⟨ev, hev⟩ : ∃ ev, evK (rd s).tr 26 = ev := ⟨_, rfl⟩
      have HEV : Hid (evK (rd s).tr 26 = ev) := hev
      rw [hev] at hevs ⊢
      clear hev
      go_wp2_with fail
      go_loopw [17] (fun vi wr => ∃ k : Nat, k ≤ ev.size ∧ vi = .int .i64 k ∧ Hid (∀ i, i < k → byte ev i ≠ c) ∧ Fr (fun _ => False) w wr) (fun vi _ => ev.size - (intOf vi).toNat)
      case atStart => exact ⟨0, Nat.zero_le _, rfl, fun i hi => (by omega), HF2.out⟩
      case round =>
        obtain ⟨k, hk, rfl, HJ, hfr⟩ := hrel
        by_cases hlt : (k : Int) < ev.size
        · have hlt' : k < ev.size := by omega
          by_cases e : ev[k] = c
          · have heq : ((ev[k].toNat : Int) == c.toNat) = true := by rw [e]; simp
            clear e
            go_wp2_with fail
            go_ret
            exact ⟨rfl, hfr⟩
          · have hne : ((ev[k].toNat : Int) == c.toNat) = false := by
              rw [beq_eq_false_iff_ne]; intro h; exact e (UInt8.toNat_inj.1 (by omega))
            have HB : Hid (byte ev k ≠ c) := by show _ ≠ _; rw [byte_in ev k hlt']; exact e
            clear e
            go_wp2_with fail
            go_roundw
            case rel => exact ⟨k + 1, by omega, by go_num, fun i hi => (by
              by_cases h : i = k
              · subst h; exact HB.out
              · exact HJ.out i (by omega)), hfr⟩
            case measure => simp [intOf]; omega
        · have hno : NoEv (th0 s) c := noEv_of HU.out c (by rw [HEV.out]; exact not_mem_of (fun i hi => HJ.out i (by omega)))
          have HO : Hid _ := idle_out HU.out hno a
          have HS : Hid _ := idle_st hno a
          have HFa : Hid _ := idle_far hno a b
          have HNE : Hid _ := pS_ne HU.out a
          have HFR : Hid (Fr (fun _ => False) w wr) := hfr
          clear hno HJ hfr
          go_wp2_with fail
          refine (pplay_ok wr s a hm HA.out).mono ?_
          rintro e w3 ⟨rfl, hf3, hs3⟩
          have HF3 : Hid _ := HFR.out.thenr hf3 (fun _ _ h => h)
          clear hf3 HFR
          have hcv := conv_one_to w3 w3.heap.size rfl c
          generalize hac : a ++ (⟨#[c]⟩ : ByteArray) = ac at *
          have hacs := HAC.out
          go_wp2_with fail
          refine (pplay_ok _ s ac hm HAC.out).mono ?_
          rintro e w4 ⟨rfl, hf4, hs4⟩
          have HF4 : Hid _ := (HF3.out.allocr _).thenr hf4 (fun _ _ h => h)
          clear hf4 HF3 hcv
          have hcv := conv_one_to w4 w4.heap.size rfl c
          generalize hacb : ac ++ b = acb at *
          go_wp2_with fail
          refine (pplay_ok _ s acb hm HACB.out).mono ?_
          rintro e w5 ⟨rfl, hf5, hs5⟩
          have HF5 : Hid _ := (HF4.out.allocr _).thenr hf5 (fun _ _ h => h)
          clear hf5 HF4 hcv
          generalize hab : a ++ b = ab at *
          go_wp2_with fail
          refine (pplay_ok _ s ab hm HAB.out).mono ?_
          rintro e w6 ⟨rfl, hf6, hs6⟩
          have HF6 : Hid _ := HF5.out.thenr hf6 (fun _ _ h => h)
          clear hf6 HF5
          rw [HO.out, HS.out, HFa.out]
          have hS1 : (pS s a).toList.isEmpty = false := by rw [List.isEmpty_eq_false_iff]; exact fun h => HNE.out (ne_dataI h)
          generalize pS s a = S at *
          generalize pO s a = A at *
          generalize pS s ab = V at *
          go_wp2_with fail
          go_ret
          exact ⟨rfl, HF6.out⟩
    · have hne : (((rdE s).1 : Int) != 0) = true := by rw [bne_iff_ne]; omega
      have HF1 : Hid _ := hf1.allocr (.cells #[.slice a3 n3 c3, .slice a4 n4 c4, .slice a5 n5 c5, .slice a6 n6 c6] 39)
      clear hch hE hf1
      go_wp2_with fail
      refine (pplay_ok _ s a hm HA.out).mono ?_
      rintro e w3 ⟨rfl, hf3, hs3⟩
      have HF3 : Hid _ := HF1.out.thenr hf3 (fun _ _ h => h)
      clear hf3 HF1
      rw [HEQ.out]
      go_wp2_with fail
      refine (lawNum_any _ _).mono ?_
      rintro e w4 ⟨rfl, rfl⟩
      go_wp2_with fail
      go_ret
      exact ⟨rfl, HF3.out⟩

open Go.ChangeShapes Go.WideShapes Go.ChangeAt
open Go.ChangeMaps (open_string shut_string)
theorem u8_to {z : Int} (h : (Lit.int .u8 z).wf = true) : ∃ c : UInt8, z = (c.toNat : Int) := by
  have h1 : (0 : Int) ≤ z ∧ z ≤ 255 := by
    simp only [Lit.wf, Bool.and_eq_true, decide_eq_true_eq] at h
    exact h
  refine ⟨UInt8.ofNat z.toNat, ?_⟩
  rw [UInt8.toNat_ofNat']
  omega

set_option maxRecDepth 100000 in
theorem idle_lifted (os : Os) (started : os.Started) (H : Type) (enc : TypeId × Value → H) :
    ReturnsInHanded {} Try.checked os 6 .any (Rows.idleSpec.pre6 enc Try.prog Try.f6 Rows.idleRow.domain false) (Rows.idleSpec.post enc Try.prog Try.f6 false true false false) := by
  refine returnsInHanded_of_change_sized (C := Try.checked) own_knob started (by kernel_rfl) Try.func6
    (ChangeSpec.witness6 (enc := enc) (C := Try.checked) false ⟨#[], #[.string ByteArray.empty, .string ByteArray.empty, .int .u8 0, .string ByteArray.empty], []⟩ 8 (by kernel_rfl) (by kernel_rfl) (by kernel_rfl) (by kernel_rfl)) ?_
  intro W base args ds gs before hval0 hW hcnd hsz _
  have hval : ∀ (j : Nat) t v, Try.f6.params[j]? = some t → args[j]? = some v → Value.okWide Try.prog W .any base t v := hval0
  have hW' := hW
  obtain ⟨p, q, hA0, hV, rfl, hfz, hnd⟩ := hW
  have hA : DataW.TrodAll enc Try.prog W 0 (fun _ => true) true Try.f6.params.toList args.toList ds p := hA0
  rw [Try.params6] at hA hval
  obtain ⟨v0, vs0, d0, ds0, p0, q0, hargs, rfl, rfl, h0, r0⟩ := trodAll_cons hA
  obtain ⟨v1, vs1, d1, ds1, p1, q1, hargs1, rfl, rfl, h1, r1⟩ := trodAll_cons r0
  obtain ⟨v2, vs2, d2, ds2, p2, q2, hargs2, rfl, rfl, h2, r2⟩ := trodAll_cons r1
  obtain ⟨v3, vs3, d3, ds3, p3, q3, hargs3, rfl, rfl, h3, r3⟩ := trodAll_cons r2
  obtain ⟨rfl, rfl, rfl⟩ := trodAll_nil r3
  obtain rfl : args = #[v0, v1, v2, v3] := by cases args; simp_all
  obtain ⟨rfl, rfl⟩ := trodVars_none hV
  obtain ⟨a0, rfl, rfl, rfl, w0⟩ := open_string Try.underlying9 (hval 0 9 v0 rfl rfl) h0
  obtain ⟨a1, rfl, rfl, rfl, w1⟩ := open_string Try.underlying9 (hval 1 9 v1 rfl rfl) h1
  obtain ⟨z, rfl, rfl, rfl, w2⟩ := open_int Try.underlying5 (hval 2 5 v2 rfl rfl) h2
  obtain ⟨a3, rfl, rfl, rfl, w3⟩ := open_string Try.underlying9 (hval 3 9 v3 rfl rfl) h3
  obtain ⟨c, rfl⟩ := u8_to w2
  have hl1 : a1.data.toList.length ≤ reachBytes := sized_string hsz (j := 1) (t := 9) rfl rfl
  have hl3 : a3.data.toList.length ≤ reachBytes := sized_string hsz (j := 3) (t := 9) rfl rfl
  have hs1 : a1.size ≤ 200000000000000 := by
    have e1 : a1.data.toList.length = a1.size := rfl
    have := reachBytes_lt
    omega
  have hs3 : a3.size ≤ 200000000000000 := by
    have e1 : a3.data.toList.length = a3.size := rfl
    have := reachBytes_lt
    omega
  clear hA0 hval0
  simp only [List.append_nil] at hW'
  refine (idle_walk a0 a1 a3 c w0 hs1 hs3 W).mono fun e W' ⟨he, hg⟩ => ?_
  subst he
  have hB : Below W.heap.size W W' := hg.below W.heap.size (Nat.le_refl _) (fun _ h => h.elim)
  refine ⟨_, rfl, _, _, _, [], [], [], hW', ?_, ?_, ?_, hB.frame _, fun h => by cases h⟩
  · exact trodAll_cons_mk (shut_bool Try.underlying4 _) trodAll_mk0
  · exact trodAll_cons_mk (shut_string Try.underlying9 w0) (trodAll_cons_mk (shut_string Try.underlying9 w1) (trodAll_cons_mk (shut_int Try.underlying5 w2) (trodAll_cons_mk (shut_string Try.underlying9 w3) trodAll_mk0)))
  · rfl

theorem idle_over : Rows.idleRow.holds Try.pinned (OpenSpec.ofChange Rows.idleSpec) :=
  OpenClaim.holds_of_wide 6 Try.f6 rfl rfl rfl rfl rfl rfl rfl ⟨rfl, rfl, rfl, rfl, rfl⟩ rfl rfl rfl rfl rfl (by kernel_rfl) Try.func6 (by kernel_rfl)
    (of_decide_eq_true (by kernel_rfl)) (by unfold Func.isWrapper; first | (rw [if_pos (by decide +kernel)]; kernel_rfl) | (rw [if_neg (by decide +kernel)]; exact ⟨rfl, rfl⟩))
    (fun os started H enc _ => idle_lifted os started H enc)
end Go.Proofs.Ytmolmbeeoecnfaa
