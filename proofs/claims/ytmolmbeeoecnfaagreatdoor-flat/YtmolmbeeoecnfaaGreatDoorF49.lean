/- Own work: PgWZ, PgY. -/
import Derived.Test.YtmolmbeeoecnfaaGreatDoorF48
import Derived.Test.YtmolmbeeoecnfaaGreatDoorF43
/- Own work: walks of the document's game: Step. -/
namespace Go.Proofs.YtmolmbeeoecnfaaGreatDoor
open Go.RowKit Go.BigFrame
set_option linter.unusedVariables false
set_option linter.unusedSimpArgs false

structure FoI (st : List StP) (th : List TrH) (p : Py) (ns : List Nat) : Prop where
 i : PyI st p
 m : p.mm.length = 26
 s : ∀ n ∈ ns, ∀ t, th[n]? = some t → ScOn st p.act t.q
 w : ns.Pairwise (Apt st th)
theorem tkF_ml {st : List StP} (q : TrQ) (p : Py) : (tkF st q p).mm.length = p.mm.length := by
 have e : (tkF st q p).mm = (rmF st (lefB st p.act q) st.length p).mm := by
  unfold tkF
  exact enF_mm st _ 26 _ _ _ (lvF_mm st _ _ _)
 rw [e, rmF_ml]
theorem foI_step {st : List StP} {th : List TrH} (ht : Tr st) {p : Py} {n : Nat} {ns : List Nat} {t : TrH} (hx : th[n]? = some t) (h : FoI st th p (n :: ns)) : FoI st th (tkF st t.q p) ns := by
 obtain ⟨hp, hm, hs, hpw⟩ := h
 rw [List.pairwise_cons] at hpw
 obtain ⟨h1, h2⟩ := tkF_lg ht t.q p hp.l hp.g (hs n (by simp) t hx)
 refine ⟨⟨by rw [tkF_alen]; exact hp.l, h1, tkF_hi t.q p hp.h, tkF_mem t.q p hp.l hp.g hp.m⟩, by rw [tkF_ml]; exact hm, ?_, hpw.2⟩
 intro m hm u hu
 have hold := hs m (by simp [hm]) u hu
 rcases hpw.1 m hm t u hx hu with hc | ⟨da, db, q1, q2, q3⟩
 ·exact Or.inl hc
 ·rcases hold with hc | ⟨d, d1, d2, d3, d4⟩
  ·exact Or.inl hc
  ·refine Or.inr ⟨d, d1, d2, d3, ?_⟩
   have : d = db := by omega
   subst this
   rw [h2 da q1 d q3]; exact d4
theorem foI_tkn {st : List StP} (th : List TrH) (ht : Tr st) {p : Py} (ih : PyI st p) (hm : p.mm.length = 26) (ev : UInt8) : FoI st th p (tkn st th p.act ev) := by
 have hin : ∀ n ∈ tkn st th p.act ev, OwnOn st th p.act n := by
  intro n hn
  rcases (wcF_in st th p.act (clL st th p.act ev) ([], noSet)).1 n hn with h3 | h3
  ·simp at h3
  ·exact clK_on ht ih.g _ _ (Nat.le_refl _) n h3
 have hpw : (tkn st th p.act ev).Pairwise (Dis st th p.act) := wcF_dis st th p.act _ ([], noSet) (fun a ha => by simp at ha) List.Pairwise.nil
 refine ⟨ih, hm, ?_, pairwise_impl _ hpw (fun a ha b hb hd => apt_of ht ih.l ih.g (hin a ha) (hin b hb) hd)⟩
 intro n hn t hx
 obtain ⟨t', e1, e2, e3⟩ := hin n hn
 rw [hx] at e1
 obtain rfl : t = t' := by injection e1
 exact scOn_of ht ih.g e2 e3

def ThM (st : List StP) (th : List TrH) : Prop := ∀ (k : Nat) (h : TrH), th[k]? = some h → (h.q.mark = 0 ∨ h.q.mark = 42 ∨ h.q.mark = 126) ∧ (h.q.mark = 42 → ∃ x, st[h.q.ts.toNat]? = some x ∧ x.wh = true) ∧ h.q.acts.size ≤ 160

set_option maxRecDepth 100000 in
set_option maxHeartbeats 4000000 in
theorem dstep_any (w : World) (M : GM) (st : List StP) (th : List TrH) (p : Py) (ev : UInt8) (hD : PlD M st) (hMk : MkR M st) (hTR : TrsR M.c st th) (hTM : ThM st th) (hp : GmP w M st p) (hI : PyI st p) (hml : p.mm.length = 26) (hb : p.out.length + 160000000000 ≤ 70000000000000) :
  Calls Tryz.prog 18 #[.pointer (some ⟨M.gb, 0, none⟩), .int .u8 ev.toNat] w fun e w' => e = .returned (.tuple #[]) ∧ (spF st th ev p).out.length ≤ p.out.length + 139586564000 ∧ GmP w' M st (spF st th ev p) ∧ Fr (OwnG M) w w' := by
 have HD : Hid _ := hD
 have HMK : Hid _ := hMk
 have HT : Hid _ := hTR
 have HTM : Hid _ := hTM
 have HB : Hid (p.out.length + 160000000000 ≤ 70000000000000) := hb
 have HL : Hid (M.c.sts.length = st.length) := hD.k.len
 have hlen := hD.t.wf.len
 have hl4 := hp.1.ct.l4
 have HN : Hid ((∀ n ∈ tkn st th p.act ev, n < th.length) ∧ (tkn st th p.act ev).length ≤ st.length) := tkn_ok st th p.act ev
 have HSP : Hid (spF st th ev p = (tkn st th p.act ev).foldl (tk1 st th) p) := rfl
 have HFI : Hid (FoI st th p (tkn st th p.act ev)) := foI_tkn th hD.t hI hml ev
 have HTA : Hid _ := dtaken_any w M st th p.act (meOf st p.mm) ⟨p.out.toArray⟩ hI.l hI.h hp.1 hTR hD.k hD.t hI.g ev
 have HP : Hid (GmP w M st p) := hp
 have hltw : M.gb < w.heap.size ∧ M.ob < w.heap.size ∧ M.mb < w.heap.size := ⟨Blk.lt hp.1.blk, Blk.lt hp.1.bo, Blk.lt hp.1.bm⟩
 clear hD hMk hTR hTM hp hI hml hb
 go_enter Tryz.func18, Tryz.ntmps18
 go_wp2_with fail
 refine Calls.mono HTA.out ?_
 rintro e w1 ⟨v2, rfl, hf1, hr2, ho2⟩
 clear HTA
 obtain ⟨hN1, hN2⟩ := HN.out
 generalize tkn st th p.act ev = ns at *
 have HP2 : Hid (GmP w1 M st p) := HP.out.fr0 hf1
 have HNO : Hid (∀ k, v2.ownBlock = some k → ¬ OwnG M k) := by
  intro k hk ho
  have h1 := ho2 k hk
  rcases ho with h | h | h
  ·omega
  ·omega
  ·omega
 have HN1 : Hid (∀ n ∈ ns, n < th.length) := hN1
 have HR2 : Hid (w1.ownsRow 0 3 1 v2 ns.length (inV ns)) := hr2
 obtain ⟨va, vc, hv⟩ := row_len hr2
 have HV : Hid (v2 = .slice va ns.length vc) := hv
 have hnl : ns.length ≤ 26 := by omega
 have hfw : Fr (OwnG M) w w1 := hf1.mono (fun _ _ h => h.elim)
 rw [hv]
 clear hr2 hN1 hN2 hf1 ho2 hv HN
 go_wp2_with fail
 go_loopg [5] 27 (fun g vi wr => ∃ (k : Nat) (q : Py), k ≤ ns.length ∧ vi = .int .i64 k ∧ Hid (GmP wr M st q) ∧ Fr (OwnG M) w wr ∧ wr.ownsRow 0 3 1 v2 ns.length (inV ns) ∧ Hid (FoI st th q (ns.drop k)) ∧ Hid (spF st th ev p = (ns.drop k).foldl (tk1 st th) q) ∧ Hid (q.out.length ≤ p.out.length + k * 5368714000) ∧ ns.length - k ≤ g)
 case atStart => exact ⟨0, p, Nat.zero_le _, rfl, HP2, hfw, HR2.out, HFI, HSP, by show _ ≤ _; omega, by omega⟩
 case round =>
  obtain ⟨k, q, hk, rfl, HPQ, hfq, hrq, HFQ, HF, HLQ, hg⟩ := hrel
  by_cases hlt : (k : Int) < ns.length
  ·have hlt' : k < ns.length := by omega
   obtain ⟨gn, cn, hvn, hcn⟩ := row_form hrq (by omega)
   have hvv := HV.out.symm.trans hvn
   injection hvv with q1 q2 q3
   subst q1
   subst q3
   clear q2
   have HRQ : Hid (wr.ownsRow 0 3 1 v2 ns.length (inV ns)) := hrq
   rw [hvn] at hrq
   obtain ⟨n, hn⟩ : ∃ n, ns[k]? = some n := ⟨_, List.getElem?_eq_getElem hlt'⟩
   have n0 := (row_cell hrq k _ (inV_get hn)).1
   have hnl2 : n < th.length := HN1.out n (List.mem_of_getElem? hn)
   have hdrop : ns.drop k = n :: ns.drop (k + 1) := by
    rw [List.drop_eq_getElem_cons hlt']; congr 1; rw [List.getElem?_eq_getElem hlt'] at hn; simpa using hn
   have hnt : n < M.c.trs.length := by rw [HT.out.len]; exact hnl2
   obtain ⟨t, hx⟩ : ∃ t, M.c.trs[n]? = some t := ⟨_, List.getElem?_eq_getElem hnt⟩
   obtain ⟨h, hh⟩ : ∃ h, th[n]? = some h := ⟨_, List.getElem?_eq_getElem hnl2⟩
   have hq := HT.out.each n t h hx hh
   obtain ⟨-, c1⟩ := HPQ.out.1.cp
   have hr4 := HPQ.out.1.ct.r4
   obtain ⟨g4, cc4, hv4, hcc4⟩ := row_form hr4 (by omega)
   rw [hv4] at c1 hr4
   obtain ⟨t0, t1, t2, t3, t4, t5⟩ := tr6F hr4 hx
   have HTC : Hid (t.cells.toArray = #[.int .i64 t.from_, .int .u8 t.event.toNat, .string t.conds, .int .u8 t.target.toNat, .string t.mark, .string t.acts]) := rfl
   have HF2 : Hid (spF st th ev p = (ns.drop (k + 1)).foldl (tk1 st th) (tkF st h.q q)) := by
    show _ = _; rw [HF.out, hdrop, List.foldl_cons, tk1, hh]
   have hfo := HFQ.out
   rw [hdrop] at hfo
   have HFQ2 : Hid (FoI st th (tkF st h.q q) (ns.drop (k + 1))) := foI_step HD.out.t hh hfo
   have hsc := hfo.s n (by simp) h hh
   obtain ⟨m1, m2, m3⟩ := HTM.out n h hh
   have hmul : k * 5368714000 ≤ 25 * 5368714000 := Nat.mul_le_mul_right _ (by omega)
   have hmul2 : (k + 1) * 5368714000 = k * 5368714000 + 5368714000 := Nat.succ_mul _ _
   have HTK : Hid (∀ w', Fr (fun _ => False) wr w' → Calls Tryz.prog 37 #[.pointer (some ⟨M.gb, 0, none⟩), .agg #[.int .i64 t.from_, .int .u8 t.event.toNat, .string t.conds, .int .u8 t.target.toNat, .string t.mark, .string t.acts]] w' fun e w'' => e = .returned (.tuple #[]) ∧ (tkF st h.q q).out.length ≤ q.out.length + 5368714000 ∧ GmP w'' M st (tkF st h.q q) ∧ Fr (OwnG M) w' w'') := fun w' f => by
    have h1 := dtake_any w' M st q t h.q HD.out HMK.out (HPQ.out.fr0 f) hfo.i hfo.m hq hsc m1 m2 m3 (by have := HLQ.out; have := HB.out; omega)
    rwa [HTC.out] at h1
   have HL2 : Hid (∀ n : Nat, n ≤ q.out.length + 5368714000 → n ≤ p.out.length + (k + 1) * 5368714000) := by intro n hn; have := HLQ.out; omega
   clear hrq hn hdrop hx hh hq hv4 hr4 hfo hsc m1 m2 m3 HF hvn hmul hmul2
   go_wp2_with fail
   go_region_with (go_at_call 37; refine Calls.mono (HTK.out _ ?_) ?_; (repeat (first | exact Fr.refl _ _ | assumption | refine Fr.drewNr ?_ _ | refine Fr.drewr ?_ | refine Fr.allocr ?_ _ | refine Fr.setCellr ?_ _ _ (by first | exact Or.inl rfl | (right; simp; done) | (right; simp; omega)))); rintro e w4 ⟨rfl, hl4', hp4, hf4⟩; have hf04 : Fr (OwnG M) wr w4 := Fr.thenr (by (repeat (first | exact Fr.refl _ _ | assumption | refine Fr.drewNr ?_ _ | refine Fr.drewr ?_ | refine Fr.allocr ?_ _ | refine Fr.setCellr ?_ _ _ (by first | exact Or.inl rfl | (right; simp; done) | (right; simp; omega))))) hf4 (fun _ _ h => h))
   all_goals
    have HL4 : Hid ((tkF st h.q q).out.length ≤ p.out.length + (k + 1) * 5368714000) := HL2.out _ hl4'
    have hr4 := row_fr HRQ.out hf04 HNO.out
    have HP4 : Hid (GmP w4 M st (tkF st h.q q)) := hp4
    have hf4' := hfq.thenr hf04 (fun _ _ h => h)
    clear HL2 HTK hl4' hp4 t0 t1 t2 t3 t4 t5 n0 c1
    go_wp2_with fail
    go_roundg (ns.length - (k + 1))
    case measure => omega
    case rel => exact ⟨k + 1, _, by omega, by go_num, HP4, hf4', hr4, HFQ2, HF2, HL4, Nat.le_refl _⟩
  ·have hkn : k = ns.length := by omega
   have HF2 : Hid (spF st th ev p = q) := by show _ = _; rw [HF.out, hkn]; simp
   have HL2 : Hid (q.out.length ≤ p.out.length + 139586564000) := by
    have h1 := HLQ.out
    have hmul : k * 5368714000 ≤ 26 * 5368714000 := Nat.mul_le_mul_right _ (by omega)
    show _ ≤ _
    omega
   clear HF HLQ hkn
   go_wp2_with fail
   go_end0
   rw [HF2.out]
   exact ⟨rfl, HL2.out, HPQ.out, hfq⟩

theorem emp_iff' (l : List Bool) : emp l = true ↔ ∀ i, i < 26 → mem l i = false := by
 unfold emp
 simp
theorem memT_emp {st : List StP} {mm : List (List Bool)} (ht : Tr st) (hr : ∀ (k : Nat) (x : StP), st[k]? = some x → x.rem = true → x.kind = 1) (hM : MemI st mm) {k : Nat} (hk : k < st.length) : (emp (memAt mm k) = true → nmT st (memAt mm k) = ⟨#[]⟩) ∧ (emp (memAt mm k) = false → nmT st (memAt mm k) ≠ ⟨#[]⟩) := by
 have hl := ht.wf.len
 refine ⟨fun h => nmT_0 (fun i hi => (emp_iff' _).1 h i (by omega)), fun h => ?_⟩
 obtain ⟨c, c1, c2⟩ := memI_ch ht hr hM hk h
 exact nmT_ne c1.1 c2
theorem ret_strT {l m : List UInt8} (h : l = m) : Ending.returned (Value.string ⟨l.toArray⟩) = .returned (.string ⟨m.toArray⟩) := by rw [h]
theorem ret_bs2 {l m r : List UInt8} {c : UInt8} (h : l = (m ++ [47, c]) ++ r) : Value.string ((((⟨m.toArray⟩ : ByteArray) ++ ⟨#[47]⟩) ++ ⟨#[c]⟩) ++ ⟨r.toArray⟩) = .string ⟨l.toArray⟩ := by
 congr 1
 apply ByteArray.ext
 rw [ByteArray.data_append, ByteArray.data_append, ByteArray.data_append]
 apply Array.toList_inj.1
 rw [h]; simp

set_option maxRecDepth 100000 in
set_option maxHeartbeats 2000000 in
theorem dtext_any (w : World) (M : GM) (st : List StP) (p : Py) (hD : PlD M st) (hp : GmP w M st p) (hM : MemI st p.mm) :
  Calls Tryz.prog 19 #[.pointer (some ⟨M.gb, 0, none⟩)] w fun e w' => e = .returned (.string ⟨(stT st p.act p.mm st.length).toArray⟩) ∧ Fr (fun _ => False) w w' := by
 have HD : Hid _ := hD
 have HM : Hid _ := hM
 have HL : Hid (M.c.sts.length = st.length) := hD.k.len
 have hl3 := hp.1.ct.l3
 have HP : Hid (GmP w M st p) := hp
 clear hD hM hp
 go_enter Tryz.func19, Tryz.ntmps19
 go_wp2_with fail
 go_loopw [3, 4] (fun vm vk wr => ∃ k : Nat, k ≤ M.c.sts.length ∧ vk = .int .i64 k ∧ vm = .string ⟨(nmK st p.act k).toArray⟩ ∧ Fr (fun _ => False) w wr) (fun _ vk _ => M.c.sts.length - (intOf vk).toNat)
 case atStart => exact ⟨0, Nat.zero_le _, by go_num, rfl, by (repeat (first | exact Fr.refl _ _ | assumption | refine Fr.drewNr ?_ _ | refine Fr.drewr ?_ | refine Fr.allocr ?_ _ | refine Fr.setCellr ?_ _ _ (by first | exact Or.inl rfl | (right; simp; done) | (right; simp; omega))))⟩
 case round =>
  obtain ⟨k, hk, rfl, rfl, hfr⟩ := hrel
  have hgr := (HP.out.fr0 hfr).1
  have c4 := hgr.c4
  obtain ⟨c0, c1⟩ := hgr.cp
  have hsz := nmK_len st p.act k
  have hsz2 : (⟨(nmK st p.act k).toArray⟩ : ByteArray).size = (nmK st p.act k).length := by show (nmK st p.act k).toArray.size = _; simp
  by_cases hlt : (k : Int) < M.c.sts.length
  ·have hlt' : k < M.c.sts.length := by omega
   have fk := hgr.on' hlt'
   rw [onOf_mem _ _ _ hlt'] at fk
   obtain ⟨y, hy⟩ : ∃ y, M.c.sts[k]? = some y := ⟨_, List.getElem?_eq_getElem hlt'⟩
   obtain ⟨y0, -, -, -, -, -, -, -⟩ := st8 hgr.ct.r3 hy
   have HNM : Hid (y.name = nameAt st k) := (HD.out.k.en k y hy).2.2
   clear hy
   cases ha : mem p.act k with
   | false =>
    rw [ha] at fk
    have HB : Hid (nmK st p.act (k + 1) = nmK st p.act k) := by show _ = _; rw [nmK, if_neg (by rw [ha]; simp)]
    clear ha
    generalize nmK st p.act k = E at *
    go_wp2_with fail
    go_roundw
    case rel => exact ⟨k + 1, by omega, by go_num, by rw [HB.out], hfr⟩
    case measure => simp [intOf]; omega
   | true =>
    rw [ha] at fk
    have HB : Hid (nmK st p.act (k + 1) = nmK st p.act k ++ [y.name]) := by show _ = _; rw [nmK, if_pos ha, ← HNM.out]
    clear ha
    generalize nmK st p.act k = E at *
    go_wp2_with fail
    go_roundw
    case rel => exact ⟨k + 1, by omega, by go_num, ret_bs HB.out, hfr.allocr _⟩
    case measure => simp [intOf]; omega
  ·have hkl : k = M.c.sts.length := by omega
   have HS0 : Hid (nmK st p.act k = stT st p.act p.mm 0) := by show _ = _; rw [hkl, HL.out, stT]
   rw [HS0.out] at hsz2 hsz ⊢
   clear hkl
   go_wp2_with fail
   clear c0 c1 c4 hgr hsz hsz2
   go_loopw [3, 5] (fun vm vk wq => ∃ j : Nat, j ≤ M.c.sts.length ∧ vk = .int .i64 j ∧ vm = .string ⟨(stT st p.act p.mm j).toArray⟩ ∧ Fr (fun _ => False) w wq) (fun _ vk _ => M.c.sts.length - (intOf vk).toNat)
   case atStart => exact ⟨0, Nat.zero_le _, by go_num, rfl, hfr⟩
   case round =>
    obtain ⟨j, hj, rfl, rfl, hfq⟩ := hrel
    have hgr := (HP.out.fr0 hfq).1
    have c4 := hgr.c4
    have c5 := hgr.c5
    obtain ⟨c0, c1⟩ := hgr.cp
    have hsz := stT_len st p.act p.mm (by rw [← HL.out]; exact hl3) j
    have hsz2 : (⟨(stT st p.act p.mm j).toArray⟩ : ByteArray).size = (stT st p.act p.mm j).length := by show (stT st p.act p.mm j).toArray.size = _; simp
    by_cases hlt : (j : Int) < M.c.sts.length
    ·have hlt' : j < M.c.sts.length := by omega
     have hjs : j < st.length := by rw [← HL.out]; exact hlt'
     obtain ⟨y, hy⟩ : ∃ y, M.c.sts[j]? = some y := ⟨_, List.getElem?_eq_getElem hlt'⟩
     obtain ⟨y0, -, -, -, -, -, -, -⟩ := st8 hgr.ct.r3 hy
     have HNM : Hid (y.name = nameAt st j) := (HD.out.k.en j y hy).2.2
     obtain ⟨m1, m2⟩ := memT_emp HD.out.t HD.out.r HM.out hjs
     have mc : wr.cell? ⟨M.mb, j, none⟩ = some (.string (nmT st (memAt p.mm j))) := by
      exact hgr.me' (meOf_at st _ hjs)
     clear hy
     cases he : emp (memAt p.mm j) with
     | true =>
      rw [m1 he] at mc
      have HB : Hid (stT st p.act p.mm (j + 1) = stT st p.act p.mm j) := by show _ = _; rw [stT, if_pos he]
      clear he m1 m2
      generalize stT st p.act p.mm j = E at *
      go_wp2_with fail
      go_roundw
      case rel => exact ⟨j + 1, by omega, by go_num, by rw [HB.out], hfq⟩
      case measure => simp [intOf]; omega
     | false =>
      have hne := m2 he
      have hms := nmT_sz st (memAt p.mm j)
      have hmbl := Blk.lt hgr.bm
      have hgbl := Blk.lt hgr.blk
      have hst26 : st.length ≤ 26 := by rw [← HL.out]; exact hl3
      have HB : Hid (stT st p.act p.mm (j + 1) = (stT st p.act p.mm j ++ [47, y.name]) ++ nmK st (memAt p.mm j) st.length) := by show _ = _; rw [stT, if_neg (by rw [he]; simp), ← HNM.out]
      have HRT : Hid (nmT st (memAt p.mm j) = ⟨(nmK st (memAt p.mm j) st.length).toArray⟩) := rfl
      have hnel : (nmT st (memAt p.mm j)).toList.isEmpty = false := by
       rw [List.isEmpty_eq_false_iff]
       intro h
       apply hne
       apply ByteArray.ext
       apply Array.toList_inj.1
       have h1 : (nmT st (memAt p.mm j)).toList = (nmT st (memAt p.mm j)).data.toList := ByteArray.toList_eq _
       rw [← h1, h]
      clear he m1 m2
      have HV : Hid (∀ E : List UInt8, E = stT st p.act p.mm j → Value.string ((((⟨E.toArray⟩ : ByteArray) ++ ⟨#[47]⟩) ++ ⟨#[y.name]⟩) ++ nmT st (memAt p.mm j)) = .string ⟨(stT st p.act p.mm (j + 1)).toArray⟩) := fun E hE => by
       rw [HRT.out]; exact ret_bs2 (by rw [HB.out, hE])
      have HV1 : Hid _ := HV.out _ rfl
      clear HV HB HRT
      generalize nmT st (memAt p.mm j) = R at *
      generalize stT st p.act p.mm j = E at *
      have hcv0 : ((wr.alloc (.cells #[.int .u8 y.name.toNat] 5)).drew).cell? ⟨wr.heap.size, 0, none⟩ = some (.int .u8 y.name.toNat) := by rw [Blk.cell (Blk.drew (Blk.new wr #[.int .u8 y.name.toNat] 5))]; rfl
      have hcv : (convert 82 9 (.slice (some ⟨wr.heap.size, 0, none⟩) 1 1)).run Tryz.prog ((wr.alloc (.cells #[.int .u8 y.name.toNat] 5)).drew) = .ok (.string ⟨#[y.name]⟩) ((wr.alloc (.cells #[.int .u8 y.name.toNat] 5)).drew) :=
       run_convert_bytes_back (P := Tryz.prog) _ 82 9 5 ⟨wr.heap.size, 0, none⟩ 1 [y.name] Tryz.underlying82 Tryz.underlying5 Tryz.underlying9 (fun j hj => by
        have : j = 0 := by simp at hj; omega
        subst this
        exact hcv0)
      go_wp2_with fail
      go_region
      all_goals
       go_wp2_with fail
       go_roundw
       case rel => exact ⟨j + 1, by omega, by go_num, HV1.out, hfq.thenr (by (repeat (first | exact Fr.refl _ _ | assumption | refine Fr.drewNr ?_ _ | refine Fr.drewr ?_ | refine Fr.allocr ?_ _ | refine Fr.setCellr ?_ _ _ (by first | exact Or.inl rfl | (right; simp; done) | (right; simp; omega))))) (fun _ _ h => h)⟩
       case measure => simp [intOf]; omega
    ·have hkl2 : j = M.c.sts.length := by omega
     have H3 : Hid (stT st p.act p.mm j = stT st p.act p.mm st.length) := by show _ = _; rw [hkl2, HL.out]
     clear hkl2
     go_wp2_with fail
     go_ret
     exact ⟨ret_strT H3.out, hfq⟩
end Go.Proofs.YtmolmbeeoecnfaaGreatDoor
