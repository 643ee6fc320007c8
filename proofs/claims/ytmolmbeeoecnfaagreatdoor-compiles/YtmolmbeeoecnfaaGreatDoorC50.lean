/- Own work: CmW. -/
import Derived.Test.YtmolmbeeoecnfaaGreatDoorC29
import Derived.Test.YtmolmbeeoecnfaaGreatDoorC40
import Derived.Test.YtmolmbeeoecnfaaGreatDoorC47
import Derived.Test.YtmolmbeeoecnfaaGreatDoorC48
import Derived.Test.YtmolmbeeoecnfaaGreatDoorC49
import Derived.Test.YtmolmbeeoecnfaaGreatDoorC46
import Derived.Deep.DeepCutAuto
/- Own work: the walk of the document's Compile. -/
namespace Go.Proofs.YtmolmbeeoecnfaaGreatDoor
open Go.RowKit Go.BigFrame
set_option linter.unusedVariables false
set_option linter.unusedSimpArgs false

def coD (r : Option ByteArray) : Value := match r with | some t => .tuple #[.string t, .int .i64 0, .int .i64 0] | none => .tuple #[.string ⟨#[]⟩, .int .i64 7, .int .i64 0]
theorem bls_mk (s : ByteArray) : (⟨(bls s).toArray⟩ : ByteArray) = s := by
 apply ByteArray.ext
 apply Array.toList_inj.1
 simp [bls]
theorem mk_app (l : List UInt8) (a : ByteArray) : (⟨l.toArray⟩ : ByteArray) ++ a = ⟨(l ++ bls a).toArray⟩ := out_app l a
theorem head_eq (es beg : ByteArray) (rows : List ByteArray) : (((es ++ ⟨#[59]⟩) ++ beg) ++ ⟨#[59]⟩ : ByteArray) = ⟨(taK es beg rows 0).toArray⟩ := by
 conv => lhs; rw [← bls_mk es]
 rw [mk_app, mk_app, mk_app, taK]
 rfl
theorem elemGm : ElemOk Tryz.prog 58 52 1 8 where
 ht := Tryz.underlying58
 info := by
  obtain ⟨i, h0, h1, h2, h3⟩ := info_parts (show (Tryz.prog.info? 52).map (fun i => (i.zero, i.size, i.bytes)) = some (some (.pointer none), 1, 8) by kernel_rfl)
  exact ⟨i, _, h0, h1, h2, h3, rfl⟩
 pos := by decide
theorem lim_iff (mx : Int) (n : Nat) : limOf mx < (n : Int) ↔ mx < (n : Int) ∨ (99 : Int) < n := by
 unfold limOf
 split <;> omega

set_option maxRecDepth 100000 in
set_option maxHeartbeats 1000000 in
theorem dcompile_bad (w : World) (s : ByteArray) (mx : Int) (hm : s.size ≤ maxLen) (hE : (rdE s).1 ≠ 0) :
  Calls Tryz.prog 6 #[.string s, .int .i64 mx] w fun e w' => e = .returned (.tuple #[.string ⟨#[]⟩, .int .i64 (rdE s).1, .int .i64 (rdE s).2]) ∧ Fr (fun _ => False) w w' := by
 have HM : Hid (s.size ≤ maxLen) := hm
 obtain ⟨E1, h1⟩ : ∃ E1, (rdE s).1 = E1 := ⟨_, rfl⟩
 obtain ⟨E2, h2⟩ : ∃ E2, (rdE s).2 = E2 := ⟨_, rfl⟩
 rw [h1] at hE
 rw [h1, h2]
 have HE1 : Hid ((rdE s).1 = E1) := h1
 have HE2 : Hid ((rdE s).2 = E2) := h2
 have hq : ((E1 : Int) != 0) = true := by rw [bne_iff_ne]; omega
 clear hE h1 h2 hm
 go_enter Tryz.func6, Tryz.ntmps6
 go_wp2_with fail
 refine (read_any w s HM.out).mono ?_
 rintro e w2 ⟨⟨v3, v4, v5, v6⟩, rfl, ⟨⟨a3, n3, c3, e3⟩, ⟨a4, n4, c4, e4⟩, ⟨a5, n5, c5, e5⟩, ⟨a6, n6, c6, e6⟩⟩, hf2, -⟩
 simp only at e3 e4 e5 e6
 subst e3 e4 e5 e6
 have HF : Hid _ := hf2
 clear hf2
 rw [HE1.out, HE2.out]
 go_wp2_with fail
 exact bodyPost_ret (v := .tuple #[.string ⟨#[]⟩, .int .i64 E1, .int .i64 E2]) (by simp [results, Tryz.results6, go_sem]) rfl ⟨rfl, by have := HF.out; (repeat (first | exact Fr.refl _ _ | assumption | refine Fr.drewNr ?_ _ | refine Fr.drewr ?_ | refine Fr.allocr ?_ _ | refine Fr.setCellr ?_ _ _ (by first | exact Or.inl rfl | (right; simp; done) | (right; simp; omega))))⟩

set_option maxRecDepth 100000 in
set_option maxHeartbeats 8000000 in
theorem dcompile_ok (w : World) (s : ByteArray) (mx : Int) (hm : s.size ≤ maxLen) (hU : (unE s).1 = 0) :
    Calls Tryz.prog 6 #[.string s, .int .i64 mx] w fun e w' => e = .returned (coD (cpS s mx)) ∧ Fr (fun _ => False) w w' := by
  have HM : Hid (s.size ≤ maxLen) := hm
  have HU : Hid ((unE s).1 = 0) := hU
  have HE : Hid ((rdE s).1 = 0) := by have := check_eq s; rw [this] at hU; exact hU
  have HE2 : Hid ((rdE s).2 = 0) := by
    have h1 := unE_2 hU
    have h2 := check_eq s
    rw [h2] at h1
    show _ = _
    have h3 : ((rdE s).2 : Int) = 0 := h1
    omega
  have HPK : Hid (PlOk (unSt s) ((th0 s).map TrH.q)) := by show PlOk _ _; rw [th0_q]; exact plan_ok s hU
  have HTR0 : Hid (Tr (unSt s)) := (un_lg hU ⟨#[]⟩).1
  have HNI : Hid (NmI (unSt s)) := un_nmI hU
  have HLK : Hid ((rd s).st.length = (unSt s).length ∧ (unSt s).length ≤ 26 ∧ (rd s).tr.length ≤ 1000000) := by
    refine ⟨(un_lk hU).len, (plan_ok s hU).wf.len, ?_⟩
    have h1 := (un_trs hU ⟨0, 0, none, 0, (rd s).st, (rd s).tr⟩ rfl rfl).len
    have h2 := (plan_ok s hU).tl
    have h3 : (th0 s).length = (unTr s).length := by unfold th0; simp
    show (rd s).tr.length ≤ _
    have h4 : (rd s).tr.length = (th0 s).length := h1
    omega
  have HCP : Hid (cpS s mx = (coF (unSt s) (th0 s) (evS (th0 s)) (limOf mx) 100 [sxP (begP (unSt s))] []).map fun z => ⟨(taK (evS (th0 s)) ⟨(begP (unSt s)).out.toArray⟩ z.2 z.2.length).toArray⟩) := rfl
  have HES : Hid ((evS (th0 s)).size ≤ 26) := evS_size (th0 s)
  clear hU hm
  generalize hst : unSt s = st at *
  generalize hth : th0 s = th at *
  have HSTE : Hid (unSt s = st) := hst
  have HTHE : Hid (th0 s = th) := hth
  clear hst hth
  go_enter Tryz.func6, Tryz.ntmps6
  go_wp2_with fail
  refine (read_any w s HM.out).mono ?_
  rintro e w1 ⟨⟨v3, v4, v5, v6⟩, rfl, ⟨⟨a3, n3, c3, e3⟩, ⟨a4, n4, c4, e4⟩, ⟨a5, n5, c5, e5⟩, ⟨a6, n6, c6, e6⟩⟩, hf1, hch⟩
  simp only at e3 e4 e5 e6
  subst e3 e4 e5 e6
  rw [HE.out, HE2.out]
  have hr3 := (hch HE.out).r3
  have hr4 := (hch HE.out).r4
  simp only at hr3 hr4
  obtain ⟨va, vc, hv⟩ := row_len hr3
  injection hv with q1 q2 q3
  subst q1 q2 q3
  obtain ⟨vb, vd, hv4⟩ := row_len hr4
  injection hv4 with q4 q5 q6
  subst q4 q5 q6
  obtain ⟨gg, cc, hv3, hcc⟩ := row_form hr3 (by have := HLK.out; have := HPK.out.s0; omega)
  injection hv3 with e1 e2 e3
  subst e1
  subst e3
  clear e2 hcc
  obtain ⟨G, hG⟩ : ∃ G : GC, G = ⟨gg, c3, a4, c4, (rd s).st, (rd s).tr⟩ := ⟨_, rfl⟩
  have HC : Hid (Ct w1 G) := by rw [hG]; exact ⟨hr3, hr4, by have := HLK.out; show (rd s).st.length ≤ _; omega, HLK.out.2.2⟩
  have HGS : Hid (G.sts = (rd s).st ∧ G.trs = (rd s).tr) := by rw [hG]; exact ⟨rfl, rfl⟩
  have HGL : Hid (G.sts.length = st.length) := by show _ = _; rw [HGS.out.1]; exact HLK.out.1
  have HD : Hid (∀ M : GM, M.c = G → PlD M st) := fun M hM => by rw [← HSTE.out]; exact un_pld HU.out M (by rw [hM]; exact HGS.out.1)
  have HMK : Hid (∀ M : GM, M.c = G → MkR M st) := fun M hM => by rw [← HSTE.out]; exact un_mkr HU.out M (by rw [hM]; exact HGS.out.2)
  have HTR : Hid (TrsR G st th) := by show TrsR G st th; rw [← HSTE.out, ← HTHE.out]; exact un_trs HU.out G HGS.out.1 HGS.out.2
  have HTM : Hid (ThM st th) := by show ThM st th; rw [← HSTE.out, ← HTHE.out]; exact un_thm HU.out
  have HG3 : Hid (G.g3 < w1.heap.size ∧ ∀ k, (Value.slice G.a4 G.trs.length G.c4).ownBlock = some k → k < w1.heap.size) := ⟨(HC.out.r3.lt G.g3 rfl).2, fun k hk => (HC.out.r4.lt k hk).2⟩
  have HST : Hid (∀ W, Fr (fun _ => False) w1 W → Calls Tryz.prog 16 #[.agg #[.slice (some ⟨gg, 0, none⟩) (rd s).st.length c3, .slice a4 (rd s).tr.length c4, .slice a5 n5 c5, .slice a6 n6 c6]] W fun e w' => ∃ M : GM, M.c = G ∧ e = .returned (.pointer (some ⟨M.gb, 0, none⟩)) ∧ GmP w' M st (begP st) ∧ (W.heap.size ≤ M.gb ∧ W.heap.size ≤ M.ob ∧ W.heap.size ≤ M.mb) ∧ (begP st).out.length ≤ 5368709120 ∧ Fr (fun _ => False) W w') := fun W fW => by
    have h1 := dstart_any W G st (.slice a5 n5 c5) (.slice a6 n6 c6) (HC.out.fr0 fW) HD.out HPK.out.s0
    rw [hG] at h1 ⊢
    exact h1
  have hb1 := Blk.new w1 #[.slice (some ⟨gg, 0, none⟩) (rd s).st.length c3, .slice a4 (rd s).tr.length c4, .slice a5 n5 c5, .slice a6 n6 c6] 48
  have HCPT : Hid (Cp (w1.alloc (.cells #[.slice (some ⟨gg, 0, none⟩) (rd s).st.length c3, .slice a4 (rd s).tr.length c4, .slice a5 n5 c5, .slice a6 n6 c6] 48)) G w1.heap.size) := by
    rw [hG]
    exact ⟨by rw [Blk.cell hb1]; rfl, by rw [Blk.cell hb1]; rfl⟩
  have hfa : Fr (fun _ => False) w1 (w1.alloc (.cells #[.slice (some ⟨gg, 0, none⟩) (rd s).st.length c3, .slice a4 (rd s).tr.length c4, .slice a5 n5 c5, .slice a6 n6 c6] 48)) := by (repeat (first | exact Fr.refl _ _ | assumption | refine Fr.drewNr ?_ _ | refine Fr.drewr ?_ | refine Fr.allocr ?_ _ | refine Fr.setCellr ?_ _ _ (by first | exact Or.inl rfl | (right; simp; done) | (right; simp; omega))))
  have HEV : Hid _ := devents_any _ G st th w1.heap.size (HC.out.fr0 hfa) HCPT.out HTR.out
  have HF1 : Hid (Fr (fun _ => False) w w1) := hf1
  clear hG hr3 hr4 hch hf1
  generalize (rd s).st.length = n3 at *
  generalize (rd s).tr.length = n4 at *
  obtain ⟨es, hes⟩ : ∃ es, evS th = es := ⟨_, rfl⟩
  rw [hes] at HEV HCP HES
  clear hes
  have hes26 := HES.out
  go_wp2_with fail
  refine Calls.mono HEV.out ?_
  rintro e w2 ⟨rfl, hf2⟩
  have hb2 := Blk.fr hb1 hf2 (fun h => h)
  have d0 : w2.cell? ⟨w1.heap.size, 0, none⟩ = some (.slice (some ⟨gg, 0, none⟩) n3 c3) := by rw [Blk.cell hb2]; rfl
  have d1 : w2.cell? ⟨w1.heap.size, 1, none⟩ = some (.slice a4 n4 c4) := by rw [Blk.cell hb2]; rfl
  have d2 : w2.cell? ⟨w1.heap.size, 2, none⟩ = some (.slice a5 n5 c5) := by rw [Blk.cell hb2]; rfl
  have d3 : w2.cell? ⟨w1.heap.size, 3, none⟩ = some (.slice a6 n6 c6) := by rw [Blk.cell hb2]; rfl
  have HF12 : Hid (Fr (fun _ => False) w1 w2) := hfa.thenr hf2 (fun _ _ h => h)
  clear hfa hf2 hb1 hb2 HEV HCPT
  go_wp2_with fail
  refine Calls.mono (HST.out _ HF12.out) ?_
  rintro e w3 ⟨M0, hM0, rfl, hp0, hge, hl0, hf3⟩
  have HP0 : Hid (GmP w3 M0 st (begP st)) := hp0
  have HM0 : Hid (M0.c = G) := hM0
  have HF3 : Hid (Fr (fun _ => False) w1 w3) := HF12.out.thenr hf3 (fun _ _ h => h)
  have HGE : Hid (w1.heap.size ≤ M0.gb ∧ w1.heap.size ≤ M0.ob ∧ w1.heap.size ≤ M0.mb) := by have := HF12.out.size; show _ ∧ _; omega
  have HFW : Hid (∀ w', Fr (fun k => w1.heap.size ≤ k) w3 w' → Fr (fun _ => False) w w') := fun w' h => (HF1.out.thenr HF3.out (fun _ _ h => h)).thenr h (fun k hk ho => by have := HF1.out.size; omega)
  obtain ⟨BG, hBG⟩ : ∃ B : ByteArray, (⟨(begP st).out.toArray⟩ : ByteArray) = B := ⟨_, rfl⟩
  have hbgs : BG.size ≤ 5368709120 := by rw [← hBG]; show (begP st).out.toArray.size ≤ _; simpa using hl0
  have c6 := hp0.1.c6
  rw [hBG] at c6 HCP
  have HX0 : Hid (XI st (sxP (begP st))) := XI.beg HTR0.out HPK.out.rm
  obtain ⟨x0, hx0⟩ : ∃ x, sxP (begP st) = x := ⟨_, rfl⟩
  have HP1 : Hid (∃ o, GmP w3 M0 st ⟨x0.1, x0.2, o⟩) := by rw [← hx0]; exact ⟨(begP st).out, hp0⟩
  rw [hx0] at HX0 HCP
  have HB3 : Hid (w1.heap.size ≤ w3.heap.size) := HF3.out.size
  have HLT : Hid (∀ k, OwnG M0 k → k < w3.heap.size) := fun k hk => hp0.1.lt hk
  have HV0 : Hid (CdV (w3.alloc (.cells #[.pointer (some ⟨M0.gb, 0, none⟩)] 52)) w1.heap.size G st (.slice (some ⟨w3.heap.size, 0, none⟩) 1 1) (.slice none 0 0) [M0] [x0] []) := by
    have hbn := Blk.new w3 #[.pointer (some ⟨M0.gb, 0, none⟩)] 52
    refine ⟨⟨rfl, .inr ⟨_, 1, #[gmP M0], rfl, Nat.zero_le _, hbn, Nat.le_refl _, by unfold maxLen; omega, rfl, rfl⟩⟩, ⟨rfl, .inl ⟨rfl, rfl⟩⟩, fun i M x hM hx => ?_, rfl, fun x hx => ?_, fun k hk => ?_, fun k hk => by simp [Value.ownBlock] at hk, fun k hk e => by simp [Value.ownBlock] at e, HG3.out.1, HG3.out.2⟩
    · obtain ⟨o, ho⟩ := HP1.out
      rcases i with _ | i
      · simp at hM hx
        subst hM
        subst hx
        exact ⟨HM0.out, o, ho.fr0 (Fr.alloc _ _ _)⟩
      · simp at hM
    · simp only [List.mem_cons, List.not_mem_nil, or_false] at hx
      rw [hx]; exact HX0.out
    · simp only [Value.ownBlock, Option.some.injEq] at hk
      subst hk
      refine ⟨HB3.out, fun M hM ho => ?_⟩
      simp only [List.mem_cons, List.not_mem_nil, or_false] at hM
      subst hM
      have := HLT.out _ ho
      omega
  have HF0 : Hid (Fr (fun k => w1.heap.size ≤ k) w3 (w3.alloc (.cells #[.pointer (some ⟨M0.gb, 0, none⟩)] 52))) := (Fr.refl _ _).allocr _
  have HHD : Hid (∀ rows, (((es ++ ⟨#[59]⟩) ++ BG) ++ ⟨#[59]⟩ : ByteArray) = ⟨(taK es BG rows 0).toArray⟩) := head_eq es BG
  clear hM0 hp0 hge hl0 hf3 d0 d1 d2 d3 hx0 hBG HST HF12 HC HP1 HP0 HGE HLT HX0
  obtain ⟨lim, hlim⟩ : ∃ lim, limOf mx = lim := ⟨_, rfl⟩
  have HLI : Hid (∀ n : Nat, lim < (n : Int) ↔ mx < (n : Int) ∨ (99 : Int) < n) := by rw [← hlim]; exact lim_iff mx
  rw [hlim] at HCP
  clear hlim
  go_wp2_with fail
  generalize hW4 : w3.alloc (.cells #[.pointer (some ⟨M0.gb, 0, none⟩)] 52) = W4 at *
  clear hW4 c6
  generalize w1.heap.size = B at *
  generalize (((es ++ ⟨#[59]⟩) ++ BG) ++ ⟨#[59]⟩ : ByteArray) = HDS at *
  go_loopg [13, 14, 15] 101 (fun g vl vc vi wr => ∃ (Ms : List GM) (l : List Sx) (rows : List ByteArray) (vL vC : Value) (f : Nat), vL = vl ∧ vC = vc ∧ vi = .int .i64 rows.length ∧ Hid (CdV wr B G st vL vC Ms l rows) ∧ Hid (Fr (fun k => B ≤ k) w3 wr) ∧ l.length ≤ 125 ∧ rows.length ≤ 99 ∧ f + rows.length = 100 ∧ Hid (coF st th es lim 100 [x0] [] = coF st th es lim f l rows) ∧ Hid (∀ r ∈ rows, r.size ≤ 6000000) ∧ f ≤ g)
  case atStart => exact ⟨[M0], [x0], [], _, _, 100, rfl, rfl, rfl, HV0, HF0, by simp, by simp, rfl, rfl, (fun r hr => by simp at hr), by omega⟩
  case round =>
    clear HV0 HF0
    obtain ⟨Ms, l, rows, vL, vC, f, rfl, rfl, rfl, HV, HF, hl, hr, hf, HCF, HRS, hg⟩ := hrel
    have HLN : Hid (Ms.length = l.length) := HV.out.ln
    have HRL : Hid (wr.ownsRow 0 52 1 vL l.length (Ms.map gmP)) := by have h1 := HV.out.rL; rw [HLN.out] at h1; exact h1
    obtain ⟨sa, sc, hvL⟩ := row_len HRL.out
    obtain ⟨ra, rc, hvC⟩ := row_len HV.out.rC
    subst hvL
    subst hvC
    obtain ⟨f', rfl⟩ : ∃ f', f = f' + 1 := ⟨f - 1, by omega⟩
    by_cases hlt : (rows.length : Int) < l.length
    · have hlt' : rows.length < l.length := by omega
      obtain ⟨x, hx⟩ : ∃ x, l[rows.length]? = some x := ⟨_, List.getElem?_eq_getElem hlt'⟩
      have HX : Hid (l[rows.length]? = some x) := hx
      have HCE : Hid (coF st th es lim (f' + 1) l rows = if lim < (l.length : Int) then none else coF st th es lim f' (ceK st th es x l es.size).1 (rows ++ [⟨(ceK st th es x l es.size).2.toArray⟩])) := by show _ = _; rw [coF, hx]
      clear hx
      by_cases hd1 : mx < (l.length : Int)
      · have HN : Hid (cpS s mx = none) := by show _ = _; rw [HCP.out, HCF.out, HCE.out, if_pos ((HLI.out _).2 (Or.inl hd1))]; rfl
        go_wp2_with fail
        have hw := HFW.out wr HF.out
        exact bodyPost_ret (v := .tuple #[.string ⟨#[]⟩, .int .i64 7, .int .i64 0]) (by simp [results, Tryz.results6, go_sem]) rfl ⟨by rw [HN.out]; rfl, hw⟩
      · have hd1' : decide (mx < (l.length : Int)) = false := by simp; omega
        by_cases hd2 : (99 : Int) < l.length
        · have HN : Hid (cpS s mx = none) := by show _ = _; rw [HCP.out, HCF.out, HCE.out, if_pos ((HLI.out _).2 (Or.inr hd2))]; rfl
          go_wp2_with fail
          have hw := HFW.out wr HF.out
          exact bodyPost_ret (v := .tuple #[.string ⟨#[]⟩, .int .i64 7, .int .i64 0]) (by simp [results, Tryz.results6, go_sem]) rfl ⟨by rw [HN.out]; rfl, hw⟩
        · have hd2' : decide ((99 : Int) < (l.length : Int)) = false := by simp; omega
          have hl99 : l.length ≤ 99 := by omega
          have HCE2 : Hid (coF st th es lim (f' + 1) l rows = coF st th es lim f' (ceK st th es x l es.size).1 (rows ++ [⟨(ceK st th es x l es.size).2.toArray⟩])) := by
            show _ = _
            rw [HCE.out, if_neg (fun h => by have := (HLI.out _).1 h; omega)]
          have HTA : Hid (∀ t ∈ th, TrOk st t.q ∧ t.q.acts.size ≤ 160) := by
            obtain ⟨hTh, hTa, hTl⟩ := HPK.out.th
            exact fun t ht => ⟨(hTh t ht).1, hTa t ht⟩
          have HXX : Hid (XI st x) := HV.out.xi x (List.mem_of_getElem? HX.out)
          have HTL : Hid (∀ k, k ≤ es.size → (ceK st th es x l k).2.length ≤ 5732688) := fun k hk => by
            have h1 := ceK_tlen HTR0.out HPK.out.sz HTA.out es x l (by omega) k (by have := HES.out; omega)
            have h2 : k * 220488 ≤ 26 * 220488 := Nat.mul_le_mul_right _ (by have := HES.out; omega)
            omega
          have HLL : Hid (∀ k, k ≤ es.size → (ceK st th es x l k).1.length ≤ 125) := fun k hk => by
            have h1 := ceK_llen st th es x l k
            have := HES.out
            omega
          clear HCE hd1 hd2
          go_wp2_with fail
          clear hd1' hd2'
          go_loopg [13, 16, 17] 27 (fun g vl vr vk wq => ∃ (k : Nat) (Ns : List GM) (vL : Value), k ≤ es.size ∧ vL = vl ∧ vk = .int .i64 k ∧ vr = .string ⟨(ceK st th es x l k).2.toArray⟩ ∧ Hid (CdV wq B G st vL (.slice ra rows.length rc) Ns (ceK st th es x l k).1 rows) ∧ Hid (Fr (fun k => B ≤ k) w3 wq) ∧ es.size - k ≤ g)
          case atStart => exact ⟨0, Ms, _, Nat.zero_le _, rfl, rfl, rfl, HV, HF, by omega⟩
          case round =>
            clear HV HF HLN HRL
            obtain ⟨k, Ns, vL, hk, rfl, rfl, rfl, HV, HF, hg2⟩ := hrel
            rename World => wq
            have HLN : Hid (Ns.length = (ceK st th es x l k).1.length) := HV.out.ln
            have hll := HLL.out k hk
            have htl := HTL.out k hk
            obtain ⟨T, hT⟩ : ∃ T : ByteArray, (⟨(ceK st th es x l k).2.toArray⟩ : ByteArray) = T := ⟨_, rfl⟩
            have hts : T.size ≤ 5732688 := by rw [← hT]; show (ceK st th es x l k).2.toArray.size ≤ _; simpa using htl
            by_cases hklt : (k : Int) < es.size
            · have hklt' : k < es.size := by omega
              have HBY : Hid (byte es k = es[k]) := byte_in es k hklt'
              obtain ⟨q, hq⟩ : ∃ q, spS st th (byte es k) x = q := ⟨_, rfl⟩
              have HQ : Hid (spF st th es[k] ⟨x.1, x.2, []⟩ = q) := by rw [← hq, HBY.out]; rfl
              have HXQ : Hid (XI st (sxP q)) := by rw [← hq]; exact HXX.out.step HTR0.out HPK.out.rm _
              have HQL : Hid (q.out.length ≤ 220480) := by
                rw [← hq]
                have h1 := spF_olen HTR0.out HPK.out.sz HTA.out (byte es k) ⟨x.1, x.2, []⟩
                have h2 : (spS st th (byte es k) x).out.length ≤ 0 + 220480 := h1
                show _ ≤ _
                omega
              have HNX : Hid (ceK st th es x l (k + 1) = (adS (ceK st th es x l k).1 (sxP q), (((ceK st th es x l k).2 ++ (if k = 0 then [] else [44])) ++ Lib.decDigits (nuS (ceK st th es x l k).1 (sxP q))) ++ [58] ++ q.out)) := by show _ = _; rw [ceK, hq]
              have hxi : (ceK st th es x l k).1[rows.length]? = some x := pre_at (ceK_pre st th es x l k) HX.out
              rw [hT]
              have HT : Hid ((⟨(ceK st th es x l k).2.toArray⟩ : ByteArray) = T) := hT
              clear hT hq htl
              generalize (ceK st th es x l k).1 = L at *
              generalize (ceK st th es x l k).2 = TL at *
              have hil := (List.getElem?_eq_some_iff.1 hxi).1
              obtain ⟨M, hM⟩ : ∃ M, Ns[rows.length]? = some M := ⟨_, List.getElem?_eq_getElem (by rw [HLN.out]; exact hil)⟩
              obtain ⟨hMc, o, hp⟩ := HV.out.ga rows.length M x hM hxi
              have HRL : Hid (wq.ownsRow 0 52 1 vL L.length (Ns.map gmP)) := by have h1 := HV.out.rL; rw [HLN.out] at h1; exact h1
              obtain ⟨gl, cl, hvL, -⟩ := row_form HRL.out (by omega)
              subst hvL
              have y0 := (row_cell HRL.out rows.length (gmP M) (by rw [List.getElem?_map, hM]; rfl)).1
              unfold gmP at y0
              have HCY : Hid _ := dcopied_any wq M st ⟨x.1, x.2, o⟩ hp (by rw [hMc, HGL.out]; exact HPK.out.s0)
              have HMC : Hid (M.c = G) := hMc
              obtain ⟨n, hn⟩ : ∃ n, nuS L (sxP q) = n := ⟨_, rfl⟩
              have hnl : n ≤ L.length := by rw [← hn]; exact nuS_le L (sxP q)
              obtain ⟨v, hv⟩ : ∃ v, nuD L (sxP q) = v := ⟨_, rfl⟩
              have HVN : Hid ((n < L.length → v = (n : Int) ∧ adS L (sxP q) = L) ∧ (¬ n < L.length → v = -1 ∧ n = L.length ∧ adS L (sxP q) = L ++ [sxP q])) := by
                refine ⟨fun h => ?_, fun h => ?_⟩
                · rw [← hv, nuD, adS, hn, if_pos h, if_pos h]; exact ⟨rfl, rfl⟩
                · rw [← hv, nuD, adS, hn, if_neg h, if_neg h]; exact ⟨rfl, by omega, rfl⟩
              obtain ⟨TX, hTX⟩ : ∃ TX, txS st (sxP q) = TX := ⟨_, rfl⟩
              have HTXE : Hid (txS st (sxP q) = TX) := hTX
              have HVE : Hid (nuD L (sxP q) = v) := hv
              rw [hn] at HNX
              clear hn hv hTX hM hp hxi hMc
              go_wp2_with fail
              refine Calls.mono HCY.out ?_
              rintro e w5 ⟨N, hNc, rfl, hp5, hn5, hf5⟩
              have HNC : Hid (N.c = G) := hNc.trans HMC.out
              have HNB : Hid (wq.heap.size ≤ N.gb ∧ wq.heap.size ≤ N.ob ∧ wq.heap.size ≤ N.mb) := hn5
              have HSP : Hid (Calls Tryz.prog 18 #[.pointer (some ⟨N.gb, 0, none⟩), .int .u8 es[k].toNat] w5 fun e w' => e = .returned (.tuple #[]) ∧ GmP w' N st q ∧ Fr (OwnG N) w5 w') := by
                refine (dstep_any w5 N st th ⟨x.1, x.2, []⟩ es[k] (HD.out N HNC.out) (HMK.out N HNC.out) (by rw [HNC.out]; exact HTR.out) HTM.out hp5 (HXX.out.out []) HXX.out.ml (by show 0 + _ ≤ _; omega)).mono ?_
                rintro e w' ⟨rfl, -, g2, g3⟩
                rw [HQ.out] at g2
                exact ⟨rfl, g2, g3⟩
              have HF5 : Hid (Fr (fun _ => False) wq w5) := hf5
              clear hNc hp5 hn5 hf5 y0 HCY HMC
              go_wp2_with fail
              refine Calls.mono HSP.out ?_
              rintro e w6 ⟨rfl, hp6, hf6⟩
              have HF6 : Hid (Fr (fun _ => False) wq w6) := HF5.out.thenr hf6 (fun i hi ho => by
                have := HNB.out
                rcases ho with h | h | h <;> omega)
              have HP6 : Hid (GmP w6 N st q) := hp6
              have HTX : Hid (Calls Tryz.prog 19 #[.pointer (some ⟨N.gb, 0, none⟩)] w6 fun e w' => e = .returned (.string TX) ∧ Fr (fun _ => False) w6 w') := by
                rw [← HTXE.out]
                exact dtext_any w6 N st q (HD.out N HNC.out) hp6 HXQ.out.i.m
              clear hp6 hf6 HSP HF5
              go_wp2_with fail
              refine Calls.mono HTX.out ?_
              rintro e w7 ⟨rfl, hf7⟩
              have HF7 : Hid (Fr (fun _ => False) wq w7) := HF6.out.thenr hf7 (fun _ _ h => h)
              have HP7 : Hid (GmP w7 N st q) := HP6.out.fr0 hf7
              have HV7 : Hid (CdV w7 B G st (.slice (some ⟨gl, 0, none⟩) L.length cl) (.slice ra rows.length rc) Ns L rows) := HV.out.fr0 HF7.out
              have HNU : Hid (Calls Tryz.prog 20 #[.slice (some ⟨gl, 0, none⟩) L.length cl, .string TX] w7 fun e w' => e = .returned (.int .i64 v) ∧ Fr (fun _ => False) w7 w') := by
                rw [← HTXE.out, ← HVE.out]
                exact dnumber_any w7 st _ Ns L HNI.out HV7.out.rL HV7.out.ln (by omega) (fun i M' y hM' hy => by
                  obtain ⟨h1, h2⟩ := HV7.out.ga i M' y hM' hy
                  exact ⟨HD.out M' h1, HV7.out.xi y (List.mem_of_getElem? hy), h2⟩) _ HXQ.out
              clear hf7 HTX HF6 HP6 HTXE
              go_wp2_with fail
              refine Calls.mono HNU.out ?_
              rintro e w8 ⟨rfl, hf8⟩
              have HF8 : Hid (Fr (fun _ => False) wq w8) := HF7.out.thenr hf8 (fun _ _ h => h)
              have HP8 : Hid (GmP w8 N st q) := HP7.out.fr0 hf8
              have HV8 : Hid (CdV w8 B G st (.slice (some ⟨gl, 0, none⟩) L.length cl) (.slice ra rows.length rc) Ns L rows) := HV7.out.fr0 hf8
              have HFB8 : Hid (Fr (fun k => B ≤ k) w3 w8) := HF.out.thenr HF8.out (fun _ _ h => h.elim)
              have HOW : Hid (∀ b, b < wq.heap.size → ¬ OwnG N b) := fun b hb ho => by
                have := HNB.out
                rcases ho with h | h | h <;> omega
              have HOL : Hid ((∀ b, (Value.slice (some ⟨gl, 0, none⟩) L.length cl).ownBlock = some b → ¬ OwnG N b) ∧ ∀ b, (Value.slice ra rows.length rc).ownBlock = some b → ¬ OwnG N b) := ⟨fun b hb => HOW.out b ((HV.out.rL.lt b hb).2), fun b hb => HOW.out b ((HV.out.rC.lt b hb).2)⟩
              have HB8 : Hid (B ≤ w8.heap.size) := by have h1 := HF.out.size; have h2 := HF8.out.size; have h3 := HB3.out; show _ ≤ _; omega
              clear hf8 HNU HF7 HP7 HV7 HF HV HNB HOW HF8 HRL HVE HLN
              go_upto_if 84 with fail
              go_cut [13, 20] (fun s13 s20 wx => s20 = .int .i64 n ∧ ∃ (Ns2 : List GM) (vL2 : Value), vL2 = s13 ∧ Hid (CdV wx B G st vL2 (.slice ra rows.length rc) Ns2 (adS L (sxP q)) rows) ∧ Hid (GmP wx N st q) ∧ Hid (Fr (fun k => B ≤ k) w3 wx))
              case first =>
                by_cases hnu : n < L.length
                · obtain ⟨hv, had⟩ := HVN.out.1 hnu
                  subst hv
                  have hn0 : ¬ ((n : Int) < 0) := by omega
                  have hn0' : decide ((n : Int) < 0) = false := by simp
                  have HAD : Hid (adS L (sxP q) = L) := had
                  clear had HVN
                  go_wp2_with fail
                  go_meet
                  exact ⟨rfl, Ns, _, rfl, (by show CdV _ _ _ _ _ _ _ _ _; rw [HAD.out]; exact HV8.out), HP8, HFB8⟩
                · obtain ⟨hv, hnL, had⟩ := HVN.out.2 hnu
                  subst hv
                  have HNL : Hid (n = L.length) := hnL
                  have HAD : Hid (adS L (sxP q) = L ++ [sxP q]) := had
                  have HVa : Hid _ := HV8.out.fr0 (Fr.alloc (fun _ => False) w8 (.cells #[.pointer (some ⟨N.gb, 0, none⟩)] 52))
                  have HPa : Hid _ := HP8.out.fr0 (Fr.alloc (fun _ => False) w8 (.cells #[.pointer (some ⟨N.gb, 0, none⟩)] 52))
                  have HFa : Hid _ := HFB8.out.allocr (.cells #[.pointer (some ⟨N.gb, 0, none⟩)] 52)
                  have HBa : Hid (B ≤ (w8.alloc (.cells #[.pointer (some ⟨N.gb, 0, none⟩)] 52)).heap.size) := by have := HB8.out; show _ ≤ _; simp; omega
                  have hrA : (w8.alloc (.cells #[.pointer (some ⟨N.gb, 0, none⟩)] 52)).ownsRow 0 52 1 (.slice (some ⟨gl, 0, none⟩) L.length cl) L.length (Ns.map gmP) := by have h1 := HVa.out.rL; rw [HVa.out.ln] at h1; exact h1
                  clear had hnL HVN hnu
                  go_wp2_with (at_builtin; refine wpList_append1 rfl _ _ _ rfl _ 1 8 elemGm _ L.length (Ns.map gmP) rfl hrA ⟨w8.heap.size, 0, none⟩ 1 [gmP N] rfl rfl (by exact cells_new (Blk.new _ _ _)) (by intro u hu; simp at hu; subst hu; rfl) (by unfold maxLen; omega) (by omega) ?_; intro g cap w9 hrow hgrow hgo; obtain ⟨hV9, hF9, hP9⟩ := HVa.out.pushL N (sxP q) q.out HNC.out HXQ.out HPa.out HBa.out HOL.out.1 HOL.out.2 hrow hgrow hgo; have HV9 : Hid _ := hV9; have HF9 : Hid _ := HFa.out.thenr hF9 (fun _ _ h => h); have HP9 : Hid _ := hP9; clear hrow hgrow hgo hV9 hF9 hP9)
                  go_meet
                  exact ⟨by rw [HNL.out], _, _, rfl, (by show CdV _ _ _ _ _ _ _ _ _; rw [HAD.out]; exact HV9.out), HP9, HF9⟩
              case rest =>
                obtain ⟨rfl, Ns2, vL2, rfl, HV9, HP9, HF9⟩ := hcut
                rename World => w9
                clear HV8 HP8 HFB8 HB8 HVN HOL
                obtain ⟨T2, hT2⟩ : ∃ T2 : ByteArray, (⟨(TL ++ (if k = 0 then [] else [44])).toArray⟩ : ByteArray) = T2 := ⟨_, rfl⟩
                have HT2 : Hid ((⟨(TL ++ (if k = 0 then [] else [44])).toArray⟩ : ByteArray) = T2) := hT2
                clear hT2
                go_upto_if 92 with fail
                go_cut [16] (fun s16 wx => s16 = .string T2 ∧ T2.size ≤ 5732689 ∧ w9 = wx)
                case first =>
                  by_cases hk0 : (0 : Int) < k
                  · have HTT : Hid (T ++ ⟨#[44]⟩ = T2) := by
                      show _ = _
                      rw [← HT2.out, ← HT.out, mk_app, if_neg (by omega)]; rfl
                    go_wp2_with fail
                    go_meet
                    have hsz := congrArg ByteArray.size HTT.out
                    rw [ByteArray.size_append] at hsz
                    exact ⟨by rw [HTT.out], by have h1 : (⟨#[44]⟩ : ByteArray).size = 1 := rfl; omega, rfl⟩
                  · have hk0' : decide ((0 : Int) < k) = false := by simp; omega
                    have HTT : Hid (T = T2) := by
                      show _ = _
                      rw [← HT2.out, ← HT.out, if_pos (by omega), List.append_nil]
                    go_wp2_with fail
                    go_meet
                    exact ⟨by rw [HTT.out], by rw [← HTT.out]; omega, rfl⟩
                case rest =>
                  obtain ⟨rfl, hts2, rfl⟩ := hcut
                  have c6 := HP9.out.1.c6
                  obtain ⟨O, hO⟩ : ∃ O : ByteArray, (⟨q.out.toArray⟩ : ByteArray) = O := ⟨_, rfl⟩
                  have hos : O.size ≤ 220480 := by rw [← hO]; show q.out.toArray.size ≤ _; simpa using HQL.out
                  rw [hO] at c6
                  have HDC : Hid (∀ w', Calls Tryz.prog 21 #[.int .i64 n] w' fun e w'' => e = .returned (.string ⟨(Lib.decDigits n).toArray⟩) ∧ Fr (fun _ => False) w' w'' ∧ (Lib.decDigits n).length ≤ n + 1) := fun w' => ddec_any n w' (by omega)
                  have hds := decD_len (n := n) (by omega)
                  obtain ⟨D, hD⟩ : ∃ D : ByteArray, (⟨(Lib.decDigits n).toArray⟩ : ByteArray) = D := ⟨_, rfl⟩
                  have hdz : D.size ≤ 6 := by rw [← hD]; show (Lib.decDigits n).toArray.size ≤ _; simpa using hds
                  have HEQ : Hid (((T2 ++ D) ++ ⟨#[58]⟩) ++ O = (⟨(ceK st th es x l (k + 1)).2.toArray⟩ : ByteArray)) := by
                    show _ = _
                    rw [HNX.out, ← HT2.out, ← hD, ← hO, mk_app, mk_app, mk_app]
                    simp [bls]
                  have HLX : Hid (∀ w', CdV w' B G st vL2 (.slice ra rows.length rc) Ns2 (adS L (sxP q)) rows → CdV w' B G st vL2 (.slice ra rows.length rc) Ns2 (ceK st th es x l (k + 1)).1 rows) := fun w' h => by rw [HNX.out]; exact h
                  have HOX : Hid ((⟨q.out.toArray⟩ : ByteArray) = O) := hO
                  rw [hD] at HDC
                  have ho1 : ¬ (9223372036854775807 < T2.size + D.size) := by omega
                  have ho2 : ¬ (9223372036854775807 < T2.size + D.size + 1) := by omega
                  have ho3 : ¬ (9223372036854775807 < T2.size + D.size + 1 + O.size) := by omega
                  clear hD hO hds HNX HT HT2
                  go_wp2_with fail
                  go_region_with (go_at_call 21; refine Calls.mono (HDC.out _) ?_; rintro e w10 ⟨rfl, hf10, -⟩; have hf04 : Fr (fun _ => False) w9 w10 := Fr.thenr (by (repeat (first | exact Fr.refl _ _ | assumption | refine Fr.drewNr ?_ _ | refine Fr.drewr ?_ | refine Fr.allocr ?_ _ | refine Fr.setCellr ?_ _ _ (by first | exact Or.inl rfl | (right; simp; done) | (right; simp; omega))))) hf10 (fun _ _ h => h); have c64 := (HP9.out.fr0 hf04).1.c6; rw [HOX.out] at c64)
                  all_goals
                    simp only [Act.put, List.getElem_toArray, List.getElem_cons_succ, List.getElem_cons_zero, List.setIfInBounds_toArray, List.set_cons_zero, List.set_cons_succ]
                    have HV10 : Hid (CdV w10 B G st vL2 (.slice ra rows.length rc) Ns2 (adS L (sxP q)) rows) := HV9.out.fr0 hf04
                    have HVX : Hid (CdV w10 B G st vL2 (.slice ra rows.length rc) Ns2 (ceK st th es x l (k + 1)).1 rows) := HLX.out _ HV10.out
                    have HFX : Hid (Fr (fun k => B ≤ k) w3 w10) := HF9.out.thenr hf04 (fun _ _ h => h.elim)
                    go_wp2_with fail
                    go_roundg (es.size - (k + 1))
                    case measure => omega
                    case rel => exact ⟨k + 1, Ns2, _, by omega, rfl, by go_num, by rw [← HEQ.out], HVX, HFX, Nat.le_refl _⟩
            · have hkn : k = es.size := by omega
              subst hkn
              rw [hT]
              rw [hT] at HCE2
              clear hT htl HTL HLL
              obtain ⟨L, hL⟩ : ∃ L, (ceK st th es x l es.size).1 = L := ⟨_, rfl⟩
              rw [hL] at HV HCE2 hll
              clear hL HLN
              have HVa : Hid _ := HV.out.fr0 (Fr.alloc (fun _ => False) wq (.cells #[.string T] 9))
              have HFa : Hid _ := HF.out.allocr (.cells #[.string T] 9)
              have hrA := HVa.out.rC
              have HBa : Hid (B ≤ (wq.alloc (.cells #[.string T] 9)).heap.size) := by have h1 := HF.out.size; have h3 := HB3.out; show _ ≤ _; simp; omega
              have HTS : Hid (T.size ≤ 5732688) := hts
              clear HV HF
              go_wp2_with (at_builtin; refine wpList_append1 rfl _ _ _ rfl _ 1 16 elemStr _ rows.length (rows.map Value.string) rfl hrA ⟨wq.heap.size, 0, none⟩ 1 [.string T] rfl rfl (by exact cells_new (Blk.new _ _ _)) (by intro u hu; simp at hu; subst hu; rfl) (by unfold maxLen; omega) (by omega) ?_; intro g cap w9 hrow hgrow hgo; obtain ⟨hV9, hF9⟩ := HVa.out.pushC T HBa.out hrow hgrow hgo; have HV9 : Hid _ := hV9; have HF9 : Hid _ := HFa.out.thenr hF9 (fun _ _ h => h); clear hrow hgrow hgo hV9 hF9)
              go_roundg f'
              case measure => omega
              case rel => exact ⟨Ns, L, rows ++ [T], _, _, f', rfl, rfl, by (first | (simp; done) | (simp; go_num)), HV9, HF9, by omega, by simp; omega, by simp; omega, HCF.out.trans HCE2.out, (fun r hr => by
                rcases List.mem_append.1 hr with h | h
                · exact HRS.out r h
                · simp only [List.mem_cons, List.not_mem_nil, or_false] at h; rw [h]; have := HTS.out; omega), Nat.le_refl _⟩
    · have HN : Hid (coF st th es lim 100 [x0] [] = some (l, rows)) := by
        show _ = _
        rw [HCF.out, coF, List.getElem?_eq_none (by omega)]
      have HCR : Hid (cpS s mx = some ⟨(taK es BG rows rows.length).toArray⟩) := by show _ = _; rw [HCP.out, HN.out]; rfl
      have HRC : Hid (wr.ownsRow 0 9 1 (.slice ra rows.length rc) rows.length (rows.map Value.string)) := HV.out.rC
      have HW : Hid (Fr (fun _ => False) w wr) := HFW.out wr HF.out
      have HH0 : Hid (HDS = ⟨(taK es BG rows 0).toArray⟩) := HHD.out rows
      have HLB : Hid (∀ k, k ≤ 1000 → (taK es BG rows k).length ≤ 10000000028 + k * 6000001) := taK_len HES.out (by omega) (by omega) HRS.out
      clear HN HCF HV HF HLN HRL HHD HCP HFW
      obtain ⟨wz0, hwz0⟩ : ∃ z, z = wr := ⟨_, rfl⟩
      subst hwz0
      go_wp2_with fail
      go_loopg [21, 22] 101 (fun g vs vi wq => ∃ k : Nat, k ≤ rows.length ∧ vi = .int .i64 k ∧ vs = .string ⟨(taK es BG rows k).toArray⟩ ∧ Hid (Fr (fun _ => False) wz0 wq) ∧ rows.length - k ≤ g)
      case atStart => exact ⟨0, Nat.zero_le _, rfl, by rw [HH0.out], Fr.refl _ _, by omega⟩
      case round =>
        obtain ⟨k, hk, rfl, rfl, HF, hg2⟩ := hrel
        have hlk := HLB.out k (by omega)
        have hlk2 : (taK es BG rows k).length ≤ 17000000000 := by
          have : k * 6000001 ≤ 1000 * 6000001 := Nat.mul_le_mul_right _ (by omega)
          omega
        obtain ⟨T, hT⟩ : ∃ T : ByteArray, (⟨(taK es BG rows k).toArray⟩ : ByteArray) = T := ⟨_, rfl⟩
        have hts : T.size ≤ 17000000000 := by rw [← hT]; show (taK es BG rows k).toArray.size ≤ _; simpa using hlk2
        by_cases hklt : (k : Int) < rows.length
        · have hklt' : k < rows.length := by omega
          obtain ⟨y, hy⟩ : ∃ y, rows[k]? = some y := ⟨_, List.getElem?_eq_getElem hklt'⟩
          have hys := HRS.out y (List.mem_of_getElem? hy)
          have HRT : Hid (rowT rows k = if fiR rows y < k then 61 :: Lib.decDigits (fiR rows y) else bls y) := by show _ = _; simp [rowT, hy]
          have HTK : Hid (taK es BG rows (k + 1) = (taK es BG rows k ++ rowT rows k) ++ [59]) := rfl
          have hfi : fiR rows y ≤ k := (fiR_at hy).1
          have HFI : Hid (∀ j, j < rows.length → eqR rows y j = true → (∀ i, i < j → eqR rows y i = false) → fiR rows y = j) := fun j hj h1 h2 => by
            unfold fiR
            rw [firstB_some (eqR rows y) j h1 h2 _ hj]; rfl
          have HFN : Hid (∀ j, j ≤ fiR rows y → eqR rows y j = false → j < fiR rows y) := fun j hj h1 => by
            rcases Nat.lt_or_eq_of_le hj with h | h
            · exact h
            · exfalso
              unfold fiR at h
              rcases firstB_spec (eqR rows y) rows.length with ⟨e1, e2⟩ | ⟨m, e1, e2, e3, e4⟩
              · have h5 := e2 k hklt'
                rw [eqR, hy] at h5
                simp at h5
              · rw [e1] at h
                have h6 : j = m := h
                rw [h6, e3] at h1
                cases h1
          have hfx : ∃ fi, fiR rows y = fi := ⟨_, rfl⟩
          obtain ⟨fi, hfe⟩ := hfx
          rw [hfe] at HRT hfi HFI HFN
          have HY : Hid (rows[k]? = some y) := hy
          rw [hT]
          have HT : Hid ((⟨(taK es BG rows k).toArray⟩ : ByteArray) = T) := hT
          clear hT hy hfe hlk hlk2
          go_wp2_with fail
          go_loopg [23] 101 (fun g vj wz => ∃ j : Nat, j ≤ fi ∧ vj = .int .i64 j ∧ Hid (∀ i, i < j → eqR rows y i = false) ∧ Hid (Fr (fun _ => False) wz0 wz) ∧ fi - j ≤ g)
          case atStart => exact ⟨0, Nat.zero_le _, rfl, (fun i hi => by omega), HF, by omega⟩
          case round =>
            clear HF
            obtain ⟨j, hj, rfl, HJ, HF, hg3⟩ := hrel
            have hjl : j < rows.length := by omega
            have hjl2 : (j : Int) < rows.length := by omega
            have hrr := row_fr HRC.out HF.out (fun _ _ h => h)
            obtain ⟨gr, cr, hvr, -⟩ := row_form hrr (by omega)
            injection hvr with e1 e2 e3
            subst e1
            subst e3
            clear e2
            obtain ⟨z, hz⟩ : ∃ z, rows[j]? = some z := ⟨_, List.getElem?_eq_getElem hjl⟩
            have y0 := (row_cell hrr k (.string y) (by rw [List.getElem?_map, HY.out]; rfl)).1
            have z0 := (row_cell hrr j (.string z) (by rw [List.getElem?_map, hz]; rfl)).1
            have HE : Hid (eqR rows y j = (z.toList == y.toList)) := by show _ = _; simp [eqR, hz]
            clear hrr hz
            rename World => wz
            cases e : (z.toList == y.toList) with
            | false =>
              have HB : Hid (eqR rows y j = false) := by show _ = _; rw [HE.out]; exact e
              have hjf := HFN.out j hj HB.out
              clear HE
              go_wp2_with fail
              go_big_quiet (fail)
              go_wp2_with fail
              go_roundg (fi - (j + 1))
              case measure => omega
              case rel => exact ⟨j + 1, by omega, by go_num, below_step HJ.out HB.out, by have := HF.out; show Fr _ _ _; (repeat (first | exact Fr.refl _ _ | assumption | refine Fr.drewNr ?_ _ | refine Fr.drewr ?_ | refine Fr.allocr ?_ _ | refine Fr.setCellr ?_ _ _ (by first | exact Or.inl rfl | (right; simp; done) | (right; simp; omega)))), Nat.le_refl _⟩
            | true =>
              have hfj : fi = j := HFI.out j hjl (by rw [HE.out]; exact e) HJ.out
              subst hfj
              clear HE HFI HFN
              by_cases hd : (fi : Int) < k
              · have HRT2 : Hid (rowT rows k = 61 :: Lib.decDigits fi) := by show _ = _; rw [HRT.out, if_pos (by omega)]
                have HDC : Hid (∀ w', Calls Tryz.prog 21 #[.int .i64 fi] w' fun e w'' => e = .returned (.string ⟨(Lib.decDigits fi).toArray⟩) ∧ Fr (fun _ => False) w' w'' ∧ (Lib.decDigits fi).length ≤ fi + 1) := fun w' => ddec_any fi w' (by omega)
                have hds := decD_len (n := fi) (by omega)
                obtain ⟨D, hD⟩ : ∃ D : ByteArray, (⟨(Lib.decDigits fi).toArray⟩ : ByteArray) = D := ⟨_, rfl⟩
                have hdz : D.size ≤ 6 := by rw [← hD]; show (Lib.decDigits fi).toArray.size ≤ _; simpa using hds
                have HEQ : Hid ((((T ++ ⟨#[61]⟩) ++ D) ++ ⟨#[59]⟩ : ByteArray) = ⟨(taK es BG rows (k + 1)).toArray⟩) := by
                  show _ = _
                  rw [HTK.out, HRT2.out, ← HT.out, ← hD, mk_app, mk_app, mk_app]
                  simp [bls]
                rw [hD] at HDC
                clear hD hds HRT HRT2 HTK HT
                go_wp2_with fail
                go_big_quiet (fail)
                go_wp2_with fail
                refine Calls.mono (HDC.out _) ?_
                rintro e w10 ⟨rfl, hf10, -⟩
                have HFX : Hid (Fr (fun _ => False) wz0 w10) := Fr.thenr (by have := HF.out; (repeat (first | exact Fr.refl _ _ | assumption | refine Fr.drewNr ?_ _ | refine Fr.drewr ?_ | refine Fr.allocr ?_ _ | refine Fr.setCellr ?_ _ _ (by first | exact Or.inl rfl | (right; simp; done) | (right; simp; omega))))) hf10 (fun _ _ h => h)
                clear y0 z0 hf10
                go_wp2_with fail
                go_roundg (rows.length - (k + 1))
                case measure => omega
                case rel => exact ⟨k + 1, by omega, by go_num, by rw [← HEQ.out], HFX, Nat.le_refl _⟩
              · have hd' : decide ((fi : Int) < k) = false := by simp; omega
                have HRT2 : Hid (rowT rows k = bls y) := by show _ = _; rw [HRT.out, if_neg (by omega)]
                have HEQ : Hid (((T ++ y) ++ ⟨#[59]⟩ : ByteArray) = ⟨(taK es BG rows (k + 1)).toArray⟩) := by
                  show _ = _
                  rw [HTK.out, HRT2.out, ← HT.out, mk_app, mk_app]
                  simp [bls]
                clear HRT HRT2 HTK HT
                go_wp2_with fail
                go_big_quiet (fail)
                go_wp2_with fail
                go_roundg (rows.length - (k + 1))
                case measure => omega
                case rel => exact ⟨k + 1, by omega, by go_num, by rw [← HEQ.out], by have := HF.out; show Fr _ _ _; (repeat (first | exact Fr.refl _ _ | assumption | refine Fr.drewNr ?_ _ | refine Fr.drewr ?_ | refine Fr.allocr ?_ _ | refine Fr.setCellr ?_ _ _ (by first | exact Or.inl rfl | (right; simp; done) | (right; simp; omega)))), Nat.le_refl _⟩
        · have hkn : k = rows.length := by omega
          have HE3 : Hid (cpS s mx = some T) := by show _ = _; rw [HCR.out, ← hT, hkn]
          rw [hT]
          clear hT hkn hlk hlk2
          go_wp2_with fail
          exact bodyPost_ret (v := .tuple #[.string T, .int .i64 0, .int .i64 0]) (by simp [results, Tryz.results6, go_sem]) rfl ⟨by rw [HE3.out]; rfl, HW.out.thenr HF.out (fun _ _ h => h)⟩
theorem dcompile_any (w : World) (s : ByteArray) (mx : Int) (hm : s.size ≤ maxLen) :
  Calls Tryz.prog 6 #[.string s, .int .i64 mx] w fun e w' => e = .returned (cpV s mx) ∧ Fr (fun _ => False) w w' := by
 have hc := check_eq s
 by_cases hU : (unE s).1 = 0
 ·have h1 := dcompile_ok w s mx hm hU
  have e : cpV s mx = coD (cpS s mx) := by rw [cpV, if_pos hU]; rfl
  rw [e]
  exact h1
 ·have hE : (rdE s).1 ≠ 0 := by rw [hc] at hU; exact hU
  have h1 := dcompile_bad w s mx hm hE
  have e : cpV s mx = .tuple #[.string ⟨#[]⟩, .int .i64 (rdE s).1, .int .i64 (rdE s).2] := by rw [cpV, if_neg hU, hc]
  rw [e]
  exact h1
end Go.Proofs.YtmolmbeeoecnfaaGreatDoor
