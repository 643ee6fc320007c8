/- Own work: PyZ5. -/
import Derived.Test.YtmolmbeeoecnfabDoorQ18
import Derived.Maps.AppendAt
/- Own work: walks of the player: step, begin. -/
namespace Go.Proofs.YtmolmbeeoecnfabDoor
open Go.RowKit Go.BigFrame
set_option linter.unusedVariables false
set_option linter.unusedSimpArgs false

theorem cl1_in (st : List StP) (th : List TrH) (act : List Bool) (ev : UInt8) (acc : List Nat) (s : Nat) (h : ∀ n ∈ acc, n < th.length) : ∀ n ∈ cl1 st th act ev acc s, n < th.length := by
  have hb := cfF_bd st th act ev (st.length + 1) s
  unfold cl1
  split
  · split
    · rename_i h1 h2
      intro n hn
      rcases List.mem_append.1 hn with h3 | h3
      · exact h n h3
      · simp only [List.mem_singleton] at h3
        have h4 : cfO st th act ev s < (th.length : Int) := hb.2
        have h5 : -1 ≤ cfO st th act ev s := hb.1
        have h6 := h2.1
        omega
    · exact h
  · exact h
theorem clK_in (st : List StP) (th : List TrH) (act : List Bool) (ev : UInt8) : ∀ k, ∀ n ∈ clK st th act ev k, n < th.length
  | 0 => by intro n hn; simp [clK] at hn
  | k + 1 => by rw [clK_succ]; exact cl1_in st th act ev _ k (clK_in st th act ev k)
theorem wcF_in (st : List StP) (th : List TrH) (act : List Bool) : ∀ (ns : List Nat) (z : List Nat × List Bool), (∀ n ∈ (ns.foldl (wc1 st th act) z).1, n ∈ z.1 ∨ n ∈ ns) ∧ (ns.foldl (wc1 st th act) z).1.length ≤ z.1.length + ns.length
  | [], z => ⟨fun n hn => Or.inl hn, by simp⟩
  | a :: r, z => by
    have ih := wcF_in st th act r (wc1 st th act z a)
    rw [List.foldl_cons]
    have h1 : (∀ n ∈ (wc1 st th act z a).1, n ∈ z.1 ∨ n = a) ∧ (wc1 st th act z a).1.length ≤ z.1.length + 1 := by
      unfold wc1
      split
      · split
        · exact ⟨fun n hn => Or.inl hn, by omega⟩
        · refine ⟨fun n hn => ?_, by simp⟩
          rcases List.mem_append.1 hn with h | h
          · exact Or.inl h
          · exact Or.inr (by simpa using h)
      · exact ⟨fun n hn => Or.inl hn, by omega⟩
    refine ⟨fun n hn => ?_, by have := ih.2; have := h1.2; simp only [List.length_cons]; omega⟩
    rcases ih.1 n hn with h | h
    · rcases h1.1 n h with h2 | h2
      · exact Or.inl h2
      · exact Or.inr (by simp [h2])
    · exact Or.inr (by simp [h])
/-- What is taken by an event. -/
def tkn (st : List StP) (th : List TrH) (act : List Bool) (ev : UInt8) : List Nat := (wcL st th act (clL st th act ev)).1
theorem tkn_ok (st : List StP) (th : List TrH) (act : List Bool) (ev : UInt8) : (∀ n ∈ tkn st th act ev, n < th.length) ∧ (tkn st th act ev).length ≤ st.length := by
  have h := wcF_in st th act (clL st th act ev) ([], noSet)
  have h2 := clK_len st th act ev st.length
  refine ⟨fun n hn => ?_, ?_⟩
  · rcases h.1 n hn with h3 | h3
    · simp at h3
    · exact clK_in st th act ev _ n h3
  · have h3 := h.2
    simp only [List.length_nil, Nat.zero_add] at h3
    exact Nat.le_trans h3 h2
def tk1 (st : List StP) (th : List TrH) (p : Py) (n : Nat) : Py := match th[n]? with | some t => tkF st t.q p | none => p
def spF (st : List StP) (th : List TrH) (ev : UInt8) (p : Py) : Py := (tkn st th p.act ev).foldl (tk1 st th) p
def RmOk (st : List StP) : Prop := ∀ (k : Nat) (x : StP), st[k]? = some x → x.rem = true → x.kind ≠ 0
def TaOk (th : List TrH) : Prop := ∀ t ∈ th, t.q.acts.size ≤ 160

set_option maxRecDepth 100000 in
set_option maxHeartbeats 1000000 in
theorem step_any (w : World) (b : Nat) (st : List StP) (ws : Wp) (p : Py) (vo : Value) (ev : UInt8) (hwf : Wf st) (hsz : SzOk st) (hrm : RmOk st) (hp : PyV w b st ws p vo) (ht : ThOk st ws.th) (hta : TaOk ws.th) (hl : ws.th.length ≤ 1000000) (hb : p.out.length + 139586564000 ≤ 70000000000000) :
    Calls Tryd.prog 20 #[.pointer (some ⟨b, 0, none⟩), .int .u8 ev.toNat] w fun e w' => e = .returned (.tuple #[]) ∧ (spF st ws.th ev p).out.length ≤ p.out.length + 139586564000 ∧ ∃ vo', PyV w' b st ws (spF st ws.th ev p) vo' ∧ EvY b vo vo' w w' := by
  have HW : Hid (Wf st) := hwf
  have HSZ : Hid (SzOk st) := hsz
  have HRM : Hid (RmOk st) := hrm
  have HT : Hid (ThOk st ws.th) := ht
  have HTA : Hid (TaOk ws.th) := hta
  have HP : Hid (PyV w b st ws p vo) := hp
  have HB : Hid (p.out.length + 139586564000 ≤ 70000000000000) := hb
  have hlen := hwf.len
  have hbl := Blk.lt hp.blk
  have HN : Hid ((∀ n ∈ tkn st ws.th p.act ev, n < ws.th.length) ∧ (tkn st ws.th p.act ev).length ≤ st.length) := tkn_ok st ws.th p.act ev
  have HCL : Hid ((∀ n ∈ clL st ws.th p.act ev, n < ws.th.length) ∧ (clL st ws.th p.act ev).length ≤ st.length) := ⟨clK_in _ _ _ _ _, clK_len _ _ _ _ _⟩
  have HSP : Hid (spF st ws.th ev p = (tkn st ws.th p.act ev).foldl (tk1 st ws.th) p) := rfl
  have HWC : Hid ((wcL st ws.th p.act (clL st ws.th p.act ev)).1 = tkn st ws.th p.act ev) := rfl
  clear hwf hsz hrm ht hta hp hb
  go_enter Tryd.func20, Tryd.ntmps20
  go_wp2_with fail
  refine (called_any w b st ws p vo ev HW.out HP.out HT.out hl).mono ?_
  rintro e w1 ⟨v1, rfl, hf1, hr1, ho1⟩
  go_wp2_with fail
  refine (withoutClashes_any w1 b st ws p vo (clL st ws.th p.act ev) v1 HW.out (HP.out.fr0 hf1) HT.out hl hr1 HCL.out.1 (by have := HCL.out.2; omega)).mono ?_
  rintro e w2 ⟨v2, rfl, hf2, hr2, ho2⟩
  rw [HWC.out] at hr2
  clear HWC HCL ho1 hr1
  obtain ⟨hN1, hN2⟩ := HN.out
  generalize tkn st ws.th p.act ev = ns at *
  have hf12 := hf1.thenr hf2 (fun _ _ h => h)
  have HP2 : Hid (PyV w2 b st ws p vo) := HP.out.fr0 hf12
  have HE2 : Hid (EvY b vo vo w w2) := EvY.of_fr0 hf12
  have HNO : Hid (∀ k, v2.ownBlock = some k → ¬ OwnY b vo k) := by
    intro k hk ho
    have h1 := ho2 k hk
    have h3 := hf1.size
    rcases ho with h | h
    · omega
    · have := (HP.out.roB _ h).2; omega
  have HN1 : Hid (∀ n ∈ ns, n < ws.th.length) := hN1
  have HR2 : Hid (w2.ownsRow 0 3 1 v2 ns.length (inV ns)) := hr2
  obtain ⟨va, vc, hv⟩ := row_len hr2
  have HV : Hid (v2 = .slice va ns.length vc) := hv
  have hnl : ns.length ≤ 26 := by omega
  rw [hv]
  clear hr2 hN1 hN2 hf1 hf2 hf12 ho2 hv HN
  go_wp2_with fail
  go_loopg [16] 27 (fun g vi wr => ∃ (k : Nat) (q : Py) (vq : Value), k ≤ ns.length ∧ vi = .int .i64 k ∧ PyV wr b st ws q vq ∧ EvY b vo vq w wr ∧ wr.ownsRow 0 3 1 v2 ns.length (inV ns) ∧ (∀ k, v2.ownBlock = some k → ¬ OwnY b vq k) ∧ Hid (spF st ws.th ev p = (ns.drop k).foldl (tk1 st ws.th) q) ∧ Hid (q.out.length ≤ p.out.length + k * 5368714000) ∧ ns.length - k ≤ g)
  case atStart => exact ⟨0, p, vo, Nat.zero_le _, rfl, HP2.out, HE2.out, HR2.out, HNO.out, HSP, by show _ ≤ _; omega, by omega⟩
  case round =>
    obtain ⟨k, q, vq, hk, rfl, hpq, heq, hrq, hnq, HF, HL, hg⟩ := hrel
    by_cases hlt : (k : Int) < ns.length
    · have hlt' : k < ns.length := by omega
      obtain ⟨gn, cn, hvn, hcn⟩ := row_form hrq (by omega)
      have hvv := HV.out.symm.trans hvn
      injection hvv with q1 q2 q3
      subst q1
      subst q3
      clear q2
      have HRQ : Hid (wr.ownsRow 0 3 1 v2 ns.length (inV ns)) := hrq
      rw [hvn] at hrq
      obtain ⟨n, hn⟩ : ∃ n, ns[k]? = some n := ⟨_, List.getElem?_eq_getElem hlt'⟩
      have n0 := (row_cell hrq k _ (inV_get hn)).1
      have hnl2 : n < ws.th.length := HN1.out n (List.mem_of_getElem? hn)
      have hdrop : ns.drop k = n :: ns.drop (k + 1) := by
        rw [List.drop_eq_getElem_cons hlt']; congr 1; rw [List.getElem?_eq_getElem hlt'] at hn; simpa using hn
      obtain ⟨gt, ct, hvt, hct⟩ := row_form hpq.pl.r3 (by omega)
      have c1 := hpq.c1
      rw [hvt] at c1
      have hr3 := hpq.pl.r3
      rw [hvt] at hr3
      obtain ⟨x, hx⟩ : ∃ x, ws.th[n]? = some x := ⟨_, List.getElem?_eq_getElem hnl2⟩
      obtain ⟨x0, x1, x2, x3, x4, x5, x6, x7, x8⟩ := tr9 hr3 hx
      have hxm := List.mem_of_getElem? hx
      obtain ⟨ca, ck, hcv⟩ := row_len (hpq.pl.rc x hxm)
      rw [hcv] at x2
      have HF2 : Hid (spF st ws.th ev p = (ns.drop (k + 1)).foldl (tk1 st ws.th) (tkF st x.q q)) := by
        show _ = _; rw [HF.out, hdrop, List.foldl_cons, tk1, hx]
      have hto := (HT.out x hxm).1
      have hmul : k * 5368714000 ≤ 25 * 5368714000 := Nat.mul_le_mul_right _ (by omega)
      have hmul2 : (k + 1) * 5368714000 = k * 5368714000 + 5368714000 := Nat.succ_mul _ _
      have HTK : Hid (Calls Tryd.prog 39 #[.pointer (some ⟨b, 0, none⟩), .agg #[.int .i64 x.q.own, .int .u8 x.q.event.toNat, .slice ca x.q.conds.length ck, .int .u8 x.q.tn.toNat, .int .i64 x.q.tp, .int .i64 x.q.ts, .int .u8 x.q.mark.toNat, .int .i64 x.q.mp, .string x.q.acts]] wr fun e w' => e = .returned (.tuple #[]) ∧ (tkF st x.q q).out.length ≤ q.out.length + 5368714000 ∧ ∃ vo', PyV w' b st ws (tkF st x.q q) vo' ∧ EvY b vq vo' wr w') := by
        have h3 := ytake_any wr b st ws q vq x HW.out HSZ.out HRM.out hpq hto (HTA.out x hxm) (by have := HL.out; have := HB.out; omega)
        rw [show x.cells.toArray = #[.int .i64 x.q.own, .int .u8 x.q.event.toNat, x.cv, .int .u8 x.q.tn.toNat, .int .i64 x.q.tp, .int .i64 x.q.ts, .int .u8 x.q.mark.toNat, .int .i64 x.q.mp, .string x.q.acts] from rfl, hcv] at h3
        exact h3
      have HL2 : Hid (∀ n : Nat, n ≤ q.out.length + 5368714000 → n ≤ p.out.length + (k + 1) * 5368714000) := by intro n hn; have := HL.out; omega
      have HPQ : Hid (PyV wr b st ws q vq) := hpq
      clear hrq hn hdrop hvt hr3 hx hxm hcv hto HF hpq hvn hmul hmul2
      go_wp2_with fail
      refine HTK.out.mono ?_
      rintro e w4 ⟨rfl, hl4, vo4, hp4, he4⟩
      have HL4 : Hid ((tkF st x.q q).out.length ≤ p.out.length + (k + 1) * 5368714000) := HL2.out _ hl4
      have hr4 := row_fr HRQ.out he4.fr hnq
      have hn4 : ∀ k, v2.ownBlock = some k → ¬ OwnY b vo4 k := fun j hj ho => hnq j hj (he4.own j (HRQ.out.lt j hj).2 ho)
      clear hl4 HL2 HTK
      go_wp2_with fail
      go_roundg (ns.length - (k + 1))
      case measure => omega
      case rel => exact ⟨k + 1, _, vo4, by omega, by go_num, hp4, heq.trans he4, hr4, hn4, HF2, HL4, Nat.le_refl _⟩
    · have hkn : k = ns.length := by omega
      have HF2 : Hid (spF st ws.th ev p = q) := by show _ = _; rw [HF.out, hkn]; simp
      have HL2 : Hid (q.out.length ≤ p.out.length + 139586564000) := by
        have h1 := HL.out
        have hmul : k * 5368714000 ≤ 26 * 5368714000 := Nat.mul_le_mul_right _ (by omega)
        show _ ≤ _
        omega
      clear HF HL hkn
      go_wp2_with fail
      go_end0
      rw [HF2.out]
      exact ⟨rfl, HL2.out, vq, hpq, heq⟩

set_option maxRecDepth 100000 in
set_option maxHeartbeats 1000000 in
theorem begin_any (w : World) (b : Nat) (st : List StP) (ws : Wp) (p : Py) (vo : Value) (hwf : Wf st) (hsz : SzOk st) (hs0 : 0 < st.length) (hp : PyV w b st ws p vo) (hb : p.out.length + 5368709120 ≤ 70000000000000) :
    Calls Tryd.prog 19 #[.pointer (some ⟨b, 0, none⟩)] w fun e w' => e = .returned (.tuple #[]) ∧ (enF st 26 0 Am.free p).out.length ≤ p.out.length + 5368709120 ∧ ∃ vo', PyV w' b st ws (enF st 26 0 Am.free p) vo' ∧ EvY b vo vo' w w' := by
  have hlen := hwf.len
  have HE : Hid (Calls Tryd.prog 36 #[.pointer (some ⟨b, 0, none⟩), .int .i64 0, .agg #[.int .i64 (-1), .int .u8 0, .int .i64 (-1)]] w fun e w' => e = .returned (.tuple #[]) ∧ (enF st 26 0 Am.free p).out.length ≤ p.out.length + 5368709120 ∧ ∃ vo', PyV w' b st ws (enF st 26 0 Am.free p) vo' ∧ EvY b vo vo' w w') :=
    enter_all st ws b hwf hsz 26 w p vo 0 Am.free hp hs0 (by omega) ⟨Int.le_refl _, by show (-1 : Int) < _; omega, Int.le_refl _, by show (-1 : Int) < _; omega⟩ hb
  clear hp hwf hsz
  go_enter Tryd.func19, Tryd.ntmps19
  go_wp2_with fail
  refine HE.out.mono ?_
  rintro e w2 ⟨rfl, hl, vo2, hp2, he2⟩
  have HL : Hid _ := hl
  clear hl
  go_wp2_with fail
  go_end0
  exact ⟨rfl, HL.out, vo2, hp2, he2⟩
end Go.Proofs.YtmolmbeeoecnfabDoor

/- Own work: walks of the plan: names. -/
namespace Go.Proofs.YtmolmbeeoecnfabDoor
open Go.RowKit Go.BigFrame
set_option linter.unusedVariables false
set_option linter.unusedSimpArgs false

def nameAt (st : List StP) (k : Nat) : UInt8 := match st[k]? with | some x => x.name | none => 0
theorem nameAt_at {st : List StP} {k : Nat} {x : StP} (h : st[k]? = some x) : nameAt st k = x.name := by simp [nameAt, h]
def nmK (st : List StP) (l : List Bool) : Nat → List UInt8
  | 0 => []
  | k + 1 => if mem l k = true then nmK st l k ++ [nameAt st k] else nmK st l k
theorem nmK_len (st : List StP) (l : List Bool) : ∀ k, (nmK st l k).length ≤ k
  | 0 => Nat.le_refl _
  | k + 1 => by
    have := nmK_len st l k
    rw [nmK]; split
    · simp; omega
    · omega

set_option maxRecDepth 100000 in
set_option maxHeartbeats 1000000 in
theorem names_any (w : World) (st : List StP) (ws : Wp) (l : List Bool) (hwf : Wf st) (hp : PlR w st ws) (hl : l.length = 26) :
    Calls Tryd.prog 40 #[.agg #[ws.v2, ws.v3], setV l] w fun e w' => ∃ v, e = .returned v ∧ Fr (fun _ => False) w w' ∧ w'.ownsRow 0 5 1 v (nmK st l st.length).length (byV (nmK st l st.length)) ∧ (∀ k, v.ownBlock = some k → w.heap.size ≤ k) ∧ ∃ g c, v = .slice (some ⟨g, 0, none⟩) (nmK st l st.length).length c := by
  unfold setV
  obtain ⟨va, vc, hv⟩ := row_len hp.r2
  have HV : Hid (ws.v2 = .slice va st.length vc) := hv
  have HP : Hid (PlR w st ws) := hp
  have HL : Hid (l.length = 26) := hl
  have hlen := hwf.len
  rw [hv]
  have HB0 : Hid (Blk (((w.alloc (.cells #[.slice va st.length vc, ws.v3] 48)).alloc (.cells (bV l).toArray 61)).alloc (.cells #[] 5)) (w.heap.size + 1) (bV l).toArray 61) := Blk.alloc (Blk.new' _ _ _ _ (by simp)) _
  have HF0 : Hid (Fr (fun _ => False) w (((w.alloc (.cells #[.slice va st.length vc, ws.v3] 48)).alloc (.cells (bV l).toArray 61)).alloc (.cells #[] 5))) := (((Fr.refl _ _).allocr _).allocr _).allocr _
  have HR0 : Hid (World.ownsRow (((w.alloc (.cells #[.slice va st.length vc, ws.v3] 48)).alloc (.cells (bV l).toArray 61)).alloc (.cells #[] 5)) 0 5 1 (.slice (some ⟨((w.alloc (.cells #[.slice va st.length vc, ws.v3] 48)).alloc (.cells (bV l).toArray 61)).heap.size, 0, none⟩) 0 0) 0 []) := row_none _ _ 1
  clear hp hwf hl hv
  go_enter Tryd.func40, Tryd.ntmps40
  go_wp2_with fail
  have hb0 := HB0.out
  have hf0 := HF0.out
  have hr0 := HR0.out
  have hs0 : (((w.alloc (.cells #[.slice va st.length vc, ws.v3] 48)).alloc (.cells (bV l).toArray 61)).alloc (.cells #[] 5)).heap.size = w.heap.size + 3 := by simp
  have hs1 : ((w.alloc (.cells #[.slice va st.length vc, ws.v3] 48)).alloc (.cells (bV l).toArray 61)).heap.size = w.heap.size + 2 := by simp
  rw [hs1] at hr0
  clear HB0 HF0 HR0 hs1
  generalize (((w.alloc (.cells #[.slice va st.length vc, ws.v3] 48)).alloc (.cells (bV l).toArray 61)).alloc (.cells #[] 5)) = W at *
  go_loopw [5, 12] (fun vv i wr => ∃ (k : Nat) (cv : Value), k ≤ st.length ∧ i = .int .i64 k ∧ vv = cv ∧ wr.ownsRow 0 5 1 cv (nmK st l k).length (byV (nmK st l k)) ∧ Blk wr (w.heap.size + 1) (bV l).toArray 61 ∧ (∀ j, cv.ownBlock = some j → w.heap.size + 2 ≤ j) ∧ Fr (fun _ => False) w wr ∧ ∃ g c, cv = .slice (some ⟨g, 0, none⟩) (nmK st l k).length c) (fun _ i _ => st.length - (intOf i).toNat)
  case atStart => exact ⟨0, _, Nat.zero_le _, rfl, rfl, hr0, hb0, fun j hj => by simp [Value.ownBlock] at hj; omega, hf0, _, _, rfl⟩
  case round =>
    obtain ⟨k, cv, hk, rfl, rfl, hrow, hbq, hown, hfr, hform⟩ := hrel
    have HFO : Hid _ := hform
    clear hform
    by_cases hlt : (k : Int) < st.length
    · have hlt' : k < st.length := by omega
      have hpr := HP.out.fr hfr (fun _ _ h => h)
      obtain ⟨gg, cc, hv3, hcc, hgl⟩ := row_gg hpr (by omega)
      have hvv := HV.out.symm.trans hv3
      injection hvv with q1 q2 q3
      subst q1
      subst q3
      clear q2
      have hr := hpr.r2
      rw [hv3] at hr
      obtain ⟨x, hx⟩ : ∃ x, st[k]? = some x := ⟨_, List.getElem?_eq_getElem hlt'⟩
      obtain ⟨x0, x1, x2, x3, x4, x5, x6, x7, x8, x9⟩ := st10 hr hx
      have cl := mem_cell (k := k) hbq (by rw [HL.out]; omega)
      have hk26 : (k : Int) < 26 := by omega
      have HN : Hid (nameAt st k = x.name) := nameAt_at hx
      have HS : Hid (nmK st l (k + 1) = if mem l k = true then nmK st l k ++ [nameAt st k] else nmK st l k) := rfl
      have hnl := nmK_len st l k
      obtain ⟨acc, hacc⟩ : ∃ acc, nmK st l k = acc := ⟨_, rfl⟩
      rw [hacc] at hrow HS hnl
      have hbl := Blk.lt hbq
      have hfo := HFO.out
      rw [hacc] at hfo
      have HFO2 : Hid _ := hfo
      clear hfo
      clear hr hv3 hx hacc hpr
      obtain ⟨ra, rk, hcv⟩ := row_len hrow
      have HR : Hid _ := hrow
      have HCV : Hid _ := hcv
      clear hrow
      rw [hcv]
      clear hcv
      cases hm : mem l k with
      | false =>
        have HS2 : Hid (nmK st l (k + 1) = acc) := by show _ = _; rw [HS.out, if_neg (by simp [hm])]
        rw [hm] at cl
        clear HS
        go_wp2_with fail
        go_roundw
        case rel => exact ⟨k + 1, _, by omega, by go_num, HCV.out.symm, by rw [HS2.out]; exact row_fr HR.out (Fr.alloc (fun _ => False) _ _) (fun _ _ h => h), Blk.alloc hbq _, hown, hfr.allocr _, by rw [HS2.out]; exact HFO2.out⟩
        case measure => simp [intOf]; omega
      | true =>
        have HS2 : Hid (nmK st l (k + 1) = acc ++ [x.name]) := by show _ = _; rw [HS.out, if_pos hm, HN.out]
        rw [hm] at cl
        clear HS
        have hownR : ∀ j, (Value.slice ra acc.length rk).ownBlock = some j → w.heap.size + 2 ≤ j := by rw [← HCV.out]; exact hown
        have hrow := HR.out
        rw [HCV.out] at hrow
        have hrow2 := row_fr hrow ((Fr.alloc (fun _ => False) wr (.cells #[Value.int IntKind.u8 x.name.toNat, Value.int IntKind.i64 x.place, Value.int IntKind.i64 x.depth, Value.int IntKind.i64 x.kind, Value.int IntKind.i64 x.outer, Value.int IntKind.i64 x.end_, Value.string x.enter, Value.string x.leave, Value.bool x.rem, Value.bool x.wh] 112)).allocr (.cells #[.int .u8 x.name.toNat] 5)) (fun _ _ h => h)
        clear hrow
        go_wp2_with (at_builtin; go_must (refine wpList_append1 rfl _ _ _ rfl _ 1 1 elemU8 _ acc.length (byV acc) rfl hrow2 ⟨wr.heap.size + 1, 0, none⟩ 1 [.int .u8 (x.name.toNat : Int)] rfl rfl (by exact cells_new (Blk.new' _ _ _ _ (by simp))) (by intro u hu; simp at hu; subst hu; rfl) (by unfold maxLen; omega) (by omega) ?_); intro g cap w8 hrow8 hgrow hgo)
        go_roundw
        case rel =>
          have f8 : Fr (fun j => (Value.slice ra acc.length rk).ownBlock = some j) _ w8 := Fr.grown _ hgrow (fun _ e => e)
          have hfr8 : Fr (fun _ => False) w w8 := ((hfr.allocr _).allocr _).trans f8 (fun _ _ h => h) (fun i hi e => by have := hownR i e; omega)
          refine ⟨k + 1, _, by omega, by go_num, rfl, ?_, ?_, ?_, hfr8, g, cap, by rw [HS2.out]; simp⟩
          · rw [HS2.out]; simpa [byV] using hrow8
          · exact Blk.fr (Blk.alloc (Blk.alloc hbq _) _) f8 (fun e => by have := hownR _ e; omega)
          · intro j hj
            simp only [Value.ownBlock, Option.some.injEq] at hj
            subst hj
            rcases hgo with h | h
            · exact hownR _ h
            · simp at h; omega
        case measure => simp [intOf]; omega
    · have hkn : k = st.length := by omega
      subst hkn
      go_wp2_with fail
      go_ret
      exact ⟨_, rfl, hfr, hrow, fun j hj => (by have := hown j hj; omega), HFO.out⟩
end Go.Proofs.YtmolmbeeoecnfabDoor

/- Own work: walks of the plan: statusText. -/
namespace Go.Proofs.YtmolmbeeoecnfabDoor
open Go.RowKit Go.BigFrame
set_option linter.unusedVariables false
set_option linter.unusedSimpArgs false

/-- The status' text: the first k memories. -/
def stT (st : List StP) (act : List Bool) (mm : List (List Bool)) : Nat → List UInt8
  | 0 => nmK st act st.length
  | k + 1 => if emp (memAt mm k) = true then stT st act mm k else (stT st act mm k ++ [47, nameAt st k]) ++ nmK st (memAt mm k) st.length
theorem stT_len (st : List StP) (act : List Bool) (mm : List (List Bool)) (h : st.length ≤ 26) : ∀ k, (stT st act mm k).length ≤ 26 + k * 28
  | 0 => by have := nmK_len st act st.length; rw [stT]; omega
  | k + 1 => by
    have h1 := stT_len st act mm h k
    have h2 := nmK_len st (memAt mm k) st.length
    rw [stT]; split
    · omega
    · simp only [List.length_append, List.length_cons, List.length_nil]; omega
def nowC (act : List Bool) (mm : List (List Bool)) : List Value := bV act ++ mmC mm
theorem rng_act {w : World} {q : Nat} {act : List Bool} {mm : List (List Bool)} {t : TypeId} (h : Blk w q (nowC act mm).toArray t) : w.rangeAt q 0 (bV act) := fun j v hv => by
  have hj := (List.getElem?_eq_some_iff.1 hv).1
  rw [Blk.cell h, ← hv, List.getElem?_toArray, nowC, Nat.zero_add, List.getElem?_append_left hj]
theorem rng_mm {w : World} {q : Nat} {act : List Bool} {mm : List (List Bool)} {t : TypeId} (h : Blk w q (nowC act mm).toArray t) (la : act.length = 26) (le : ∀ m ∈ mm, m.length = 26) {i : Nat} {m : List Bool} (hm : mm[i]? = some m) : w.rangeAt q (26 + i * 26) (bV m) := fun j v hv => by
  have hl : m.length = 26 := le m (List.mem_of_getElem? hm)
  have hj : j < 26 := by have := (List.getElem?_eq_some_iff.1 hv).1; rw [bV_len, hl] at this; exact this
  rw [Blk.cell h, ← hv, List.getElem?_toArray, nowC, List.getElem?_append_right (by rw [bV_len, la]; omega), ← mmC_get mm i j m le hm hj]
  congr 1
  rw [bV_len, la]; omega
theorem row_up {w : World} {e : TypeId} {sz : Nat} {v : Value} {n : Nat} {xs : List Value} (B : Nat) (h : w.ownsRow 0 e sz v n xs) (hb : ∀ k, v.ownBlock = some k → B ≤ k) : w.ownsRow B e sz v n xs := by
  refine ⟨h.1, ?_⟩
  rcases h.2 with hn | ⟨g, cap, cur, rfl, _, hg, rest⟩
  · exact .inl hn
  · exact .inr ⟨g, cap, cur, rfl, hb g rfl, hg, rest⟩
theorem row_dn {w : World} {e : TypeId} {sz : Nat} {v : Value} {n : Nat} {xs : List Value} {B : Nat} (h : w.ownsRow B e sz v n xs) : w.ownsRow 0 e sz v n xs := by
  refine ⟨h.1, ?_⟩
  rcases h.2 with hn | ⟨g, cap, cur, rfl, _, hg, rest⟩
  · exact .inl hn
  · exact .inr ⟨g, cap, cur, rfl, Nat.zero_le _, hg, rest⟩

theorem wpList_appendN {P : Program} {w : World} {ops : Array Oper} {rest : List Oper} {o : Oper} {a : Act} {Q : Exit → Act → World → Prop} (hgd : o.guard = none) (s x : Operand) (t : TypeId)
    (ho : o.op = .call { callee := .builtin .append, args := #[s, x], argTypes := #[t, t] })
    (base : Nat) (e : TypeId) (he : ElemOk P t e 1 1) (g0 c0 : Nat) (n : Nat) (xs : List Value) (hs : a.eval s = .slice (some ⟨g0, 0, none⟩) n c0) (hown : w.ownsRow base e 1 (.slice (some ⟨g0, 0, none⟩) n c0) n xs)
    (ad : Addr) (m c : Nat) (news : List Value) (hx : a.eval x = .slice (some ad) m c) (hl : news.length = m) (hnews : ∀ j u, news[j]? = some u → w.cell? (ad.add j) = some u) (h1 : ∀ u ∈ news, u.oneCell' = true)
    (h63 : n + m ≤ 1000000) (hbase : base ≤ w.heap.size)
    (h : ∀ g cap w', w'.ownsRow base e 1 (.slice (some ⟨g, 0, none⟩) (n + m) cap) (n + m) (xs ++ news) → w.grownBy w' (some g0) → (g = g0 ∨ w.heap.size ≤ g) → wpList P ops Q rest (a.put o.dst (.slice (some ⟨g, 0, none⟩) (n + m) cap)) w') :
    wpList P ops Q (o :: rest) a w := by
  obtain ⟨ht, ⟨i, z, hi, hz, hsize, hby, hzs⟩, hsz⟩ := he
  refine wpList_append_own_at (P := P) w hgd s x t ho base e i z 1 1 ht hi hz hsize hby hzs hsz _ n xs hs hown ad m c news hx (by omega) hnews h1 (by unfold maxLen; omega) (by omega) hbase ?_
  intro v' w' h2 h3 h4 h5
  rcases h2.2 with ⟨hn, h0⟩ | ⟨g, cap, cur, hv, _⟩
  · exact absurd (h4.1 hn).1 (by simp)
  · subst hv
    refine h g cap w' h2 h3 ?_
    rcases h5 with h5 | h5
    · simp [Value.ownBlock] at h5; exact Or.inl h5
    · simp [Value.ownBlock] at h5; exact Or.inr (by omega)

set_option maxRecDepth 100000 in
set_option maxHeartbeats 1000000 in
theorem statusText_any (w : World) (st : List StP) (ws : Wp) (act : List Bool) (mm : List (List Bool)) (hwf : Wf st) (hp : PlR w st ws) (la : act.length = 26) (lm : mm.length = 26) (le : ∀ m ∈ mm, m.length = 26) :
    Calls Tryd.prog 21 #[.agg #[ws.v2, ws.v3], .agg (nowC act mm).toArray] w fun e w' => e = .returned (.string ⟨(stT st act mm st.length).toArray⟩) ∧ Fr (fun _ => False) w w' := by
  obtain ⟨va, vc, hv⟩ := row_len hp.r2
  obtain ⟨a3, k3, e3⟩ : ∃ a k, ws.v3 = .slice a ws.th.length k := row_len hp.r3
  have HV : Hid (ws.v2 = .slice va st.length vc) := hv
  have HV3 : Hid (ws.v3 = .slice a3 ws.th.length k3) := e3
  have HP : Hid (PlR w st ws) := hp
  have HLA : Hid (act.length = 26) := la
  have HLM : Hid (mm.length = 26) := lm
  have HLE : Hid (∀ m ∈ mm, m.length = 26) := le
  have HW : Hid (Wf st) := hwf
  have hlen := hwf.len
  have HNM : Hid (∀ (W : World) (l : List Bool), PlR W st ws → l.length = 26 → Calls Tryd.prog 40 #[.agg #[.slice va st.length vc, .slice a3 ws.th.length k3], .agg (bV l).toArray] W fun e w' => ∃ v, e = .returned v ∧ Fr (fun _ => False) W w' ∧ w'.ownsRow 0 5 1 v (nmK st l st.length).length (byV (nmK st l st.length)) ∧ (∀ k, v.ownBlock = some k → W.heap.size ≤ k) ∧ ∃ g c, v = .slice (some ⟨g, 0, none⟩) (nmK st l st.length).length c) := by
    intro W l h1 h2
    have h3 := names_any W st ws l HW.out h1 h2
    rw [HV.out, HV3.out] at h3
    exact h3
  rw [hv, e3]
  have hB0 : Blk ((w.alloc (.cells #[.slice va st.length vc, .slice a3 ws.th.length k3] 48)).alloc (.cells (nowC act mm).toArray 64)) w.heap.size #[.slice va st.length vc, .slice a3 ws.th.length k3] 48 := Blk.alloc (Blk.new _ _ _) _
  have hN0 : Blk ((w.alloc (.cells #[.slice va st.length vc, .slice a3 ws.th.length k3] 48)).alloc (.cells (nowC act mm).toArray 64)) (w.heap.size + 1) (nowC act mm).toArray 64 := Blk.new' _ _ _ _ (by simp)
  have hF0 : Fr (fun _ => False) w ((w.alloc (.cells #[.slice va st.length vc, .slice a3 ws.th.length k3] 48)).alloc (.cells (nowC act mm).toArray 64)) := ((Fr.refl _ _).allocr _).allocr _
  have raA := rng_act hN0
  have inA' := setInfo la
  have HB0 : Hid _ := hB0
  have HN0 : Hid _ := hN0
  have HF0 : Hid _ := hF0
  have hs0 : ((w.alloc (.cells #[.slice va st.length vc, .slice a3 ws.th.length k3] 48)).alloc (.cells (nowC act mm).toArray 64)).heap.size = w.heap.size + 2 := by simp
  have HS0 : Hid _ := hs0
  clear hp hwf la lm le hv e3 hB0 hN0 hF0 hs0
  go_enter Tryd.func21, Tryd.ntmps21
  go_wp2_with (first | (refine wpList_load_mid rfl 61 _ rfl _ _ rfl _ _ (by assumption) Tryd.underlying61 rfl (by assumption) ?_))
  refine (HNM.out _ act (HP.out.fr HF0.out (fun _ _ h => h)) HLA.out).mono ?_
  have hB0 := HB0.out
  have hN0 := HN0.out
  have hF0 := HF0.out
  have hs0 := HS0.out
  clear HB0 HN0 HF0 HS0 raA
  generalize ((w.alloc (.cells #[.slice va st.length vc, .slice a3 ws.th.length k3] 48)).alloc (.cells (nowC act mm).toArray 64)) = W at *
  rintro e w1 ⟨v1, rfl, hf1, hr1, ho1, g1, c1, hg1⟩
  have hB1 := Blk.fr hB0 hf1 (fun h => h)
  have hN1 := Blk.fr hN0 hf1 (fun h => h)
  have hF1 := hF0.thenr hf1 (fun _ _ h => h)
  have b0 : w1.cell? ⟨w.heap.size, 0, none⟩ = some (.slice va st.length vc) := by rw [Blk.cell hB1]; rfl
  have HF1 : Hid (Fr (fun _ => False) w w1) := hF1
  have HB1 : Hid _ := hB1
  have HN1 : Hid _ := hN1
  have HR1 : Hid (w1.ownsRow (w.heap.size + 2) 5 1 v1 (stT st act mm 0).length (byV (stT st act mm 0))) := row_up _ hr1 (fun k hk => by have := ho1 k hk; omega)
  have HG1 : Hid (∃ g c, v1 = .slice (some ⟨g, 0, none⟩) (stT st act mm 0).length c) := ⟨g1, c1, hg1⟩
  clear hB0 hN0 hF0 hs0 hB1 hN1 hF1 hr1 ho1 hf1 hg1
  go_wp2_with fail
  go_loopw [5, 16] (fun vv i wr => ∃ (k : Nat) (cv : Value), k ≤ st.length ∧ i = .int .i64 k ∧ vv = cv ∧ wr.ownsRow (w.heap.size + 2) 5 1 cv (stT st act mm k).length (byV (stT st act mm k)) ∧ Blk wr w.heap.size #[.slice va st.length vc, .slice a3 ws.th.length k3] 48 ∧ Blk wr (w.heap.size + 1) (nowC act mm).toArray 64 ∧ Fr (fun _ => False) w wr ∧ Hid (∃ g c, cv = .slice (some ⟨g, 0, none⟩) (stT st act mm k).length c)) (fun _ i _ => st.length - (intOf i).toNat)
  case atStart => exact ⟨0, _, Nat.zero_le _, rfl, rfl, HR1.out, HB1.out, HN1.out, HF1.out, HG1⟩
  case round =>
    obtain ⟨k, cv, hk, rfl, rfl, hrow, hbq, hnq, hfr, HFO⟩ := hrel
    by_cases hlt : (k : Int) < st.length
    · have hlt' : k < st.length := by omega
      have hpr := HP.out.fr hfr (fun _ _ h => h)
      have HPR : Hid (PlR wr st ws) := hpr
      obtain ⟨gg, cc, hv3, hcc, hgl⟩ := row_gg hpr (by omega)
      have hvv := HV.out.symm.trans hv3
      injection hvv with q1 q2 q3
      subst q1
      subst q3
      clear q2
      have hr := hpr.r2
      rw [hv3] at hr
      obtain ⟨x, hx⟩ : ∃ x, st[k]? = some x := ⟨_, List.getElem?_eq_getElem hlt'⟩
      obtain ⟨x0, x1, x2, x3, x4, x5, x6, x7, x8, x9⟩ := st10 hr hx
      obtain ⟨m, hm⟩ : ∃ m, mm[k]? = some m := ⟨_, List.getElem?_eq_getElem (by rw [HLM.out]; omega)⟩
      have hml : m.length = 26 := HLE.out m (List.mem_of_getElem? hm)
      have HM : Hid (mm[k]? = some m) := hm
      have HMA : Hid (memAt mm k = m) := by show _ = _; rw [memAt, hm]
      have hk26 : (k : Int) < 26 := by omega
      have hk0 : (0 : Int) ≤ (k : Int) := by omega
      have HN : Hid (nameAt st k = x.name) := nameAt_at hx
      have HS : Hid (stT st act mm (k + 1) = if emp m = true then stT st act mm k else (stT st act mm k ++ [47, x.name]) ++ nmK st m st.length) := by show _ = _; rw [stT, HMA.out, HN.out]
      have HTL : Hid ((stT st act mm k).length ≤ 1000) := by have := stT_len st act mm hlen k; show _ ≤ _; omega
      have hNa := Blk.alloc hnq (.cells #[Value.int IntKind.u8 x.name.toNat, Value.int IntKind.i64 x.place, Value.int IntKind.i64 x.depth, Value.int IntKind.i64 x.kind, Value.int IntKind.i64 x.outer, Value.int IntKind.i64 x.end_, Value.string x.enter, Value.string x.leave, Value.bool x.rem, Value.bool x.wh] 112)
      have hBa := Blk.alloc hbq (.cells #[Value.int IntKind.u8 x.name.toNat, Value.int IntKind.i64 x.place, Value.int IntKind.i64 x.depth, Value.int IntKind.i64 x.kind, Value.int IntKind.i64 x.outer, Value.int IntKind.i64 x.end_, Value.string x.enter, Value.string x.leave, Value.bool x.rem, Value.bool x.wh] 112)
      have hSa := Blk.new wr #[Value.int IntKind.u8 x.name.toNat, Value.int IntKind.i64 x.place, Value.int IntKind.i64 x.depth, Value.int IntKind.i64 x.kind, Value.int IntKind.i64 x.outer, Value.int IntKind.i64 x.end_, Value.string x.enter, Value.string x.leave, Value.bool x.rem, Value.bool x.wh] 112
      have hfa := Fr.alloc (fun _ => False) wr (.cells #[Value.int IntKind.u8 x.name.toNat, Value.int IntKind.i64 x.place, Value.int IntKind.i64 x.depth, Value.int IntKind.i64 x.kind, Value.int IntKind.i64 x.outer, Value.int IntKind.i64 x.end_, Value.string x.enter, Value.string x.leave, Value.bool x.rem, Value.bool x.wh] 112)
      have raM := rng_mm hNa HLA.out HLE.out hm
      have inM := setInfo hml
      have HR : Hid _ := hrow
      have HNa : Hid _ := hNa
      have HBa : Hid _ := hBa
      have HSa : Hid _ := hSa
      have HFa : Hid _ := hfa
      have hwl := Blk.lt hnq
      obtain ⟨tx, htx⟩ : ∃ tx, stT st act mm k = tx := ⟨_, rfl⟩
      rw [htx] at HR HS HTL HFO
      obtain ⟨g0, c0, hcv⟩ := HFO.out
      have HCV : Hid _ := hcv
      rw [hcv]
      clear hcv hr hv3 hx hpr hNa hBa hSa hfa hm htx hrow
      go_wp2_with (first | (refine wpList_load_mid rfl 61 _ rfl _ _ rfl _ _ (by assumption) Tryd.underlying61 rfl (by assumption) ?_))
      refine (isEmpty_any _ m hml).mono ?_
      rintro e w2 ⟨rfl, hf2⟩
      have hN2 := Blk.fr HNa.out hf2 (fun h => h)
      have hB2 := Blk.fr HBa.out hf2 (fun h => h)
      have hS2 := Blk.fr HSa.out hf2 (fun h => h)
      have hf12 := HFa.out.thenr hf2 (fun _ _ h => h)
      clear x0 x1 x2 x3 x4 x5 x6 x7 x8 x9 raM HNa HBa HSa HFa hf2
      cases hem : emp m with
      | true =>
        have HS2 : Hid (stT st act mm (k + 1) = tx) := by show _ = _; rw [HS.out, if_pos hem]
        clear HS
        go_wp2_with fail
        go_roundw
        case rel => exact ⟨k + 1, _, by omega, by go_num, HCV.out.symm, by rw [HS2.out]; exact row_frB HR.out hf12 (fun _ _ h => h), hB2, hN2, hfr.thenr hf12 (fun _ _ h => h), by rw [HS2.out]; exact HFO⟩
        case measure => simp [intOf]; omega
      | false =>
        have HS2 : Hid (stT st act mm (k + 1) = (tx ++ [47, x.name]) ++ nmK st m st.length) := by show _ = _; rw [HS.out, if_neg (by simp [hem])]
        clear HS
        have raM := rng_mm hN2 HLA.out HLE.out HM.out
        have lenL : (bV m).length = 26 := by rw [bV_len, hml]
        have oneL : ∀ v ∈ bV m, v.oneCell' = true := by intro v hv; simp only [bV, List.mem_map] at hv; obtain ⟨_, _, rfl⟩ := hv; rfl
        have hu73 := Tryd.underlying61
        have d0 : w2.cell? ⟨w.heap.size, 0, none⟩ = some (.slice (some ⟨gg, 0, none⟩) st.length vc) := by rw [Blk.cell hB2]; rfl
        have d1 : w2.cell? ⟨w.heap.size, 1, none⟩ = some (.slice a3 ws.th.length k3) := by rw [Blk.cell hB2]; rfl
        have HKS : Hid (∀ w4, Fr (fun _ => False) w2 w4 → (w4.cell? ⟨w.heap.size, 0, none⟩ = some (.slice (some ⟨gg, 0, none⟩) st.length vc) ∧ w4.cell? ⟨w.heap.size, 1, none⟩ = some (.slice a3 ws.th.length k3) ∧ w4.rangeAt (w.heap.size + 1) (26 + k * 26) (bV m))) := by
          intro w4 hf
          have h1 := Blk.fr hB2 hf (fun h => h)
          have h2 := Blk.fr hN2 hf (fun h => h)
          exact ⟨by rw [Blk.cell h1]; rfl, by rw [Blk.cell h1]; rfl, rng_mm h2 HLA.out HLE.out HM.out⟩
        have HPL : Hid (PlR w2.drew st ws) := HPR.out.fr hf12.drewr (fun _ _ h => h)
        have HB2 : Hid _ := hB2
        have HN2 : Hid _ := hN2
        have HS3 : Hid _ := hS2
        have HF12 : Hid _ := hf12
        have hs12 := hf12.size
        clear hB2 hN2 hS2 hf12
        go_wp2_with fail
        go_region_held3 (fun w' => w'.cell? ⟨w.heap.size, 0, none⟩ = some (.slice (some ⟨gg, 0, none⟩) st.length vc) ∧ w'.cell? ⟨w.heap.size, 1, none⟩ = some (.slice a3 ws.th.length k3) ∧ w'.rangeAt (w.heap.size + 1) (26 + k * 26) (bV m)) (first | exact HKS.out _ (by assumption) | exact HKS.out _ (Fr.drewr (Fr.refl _ _))) (first | (go_at_call 40; refine Calls.mono (HNM.out _ m HPL.out hml) ?_; rintro e w4 ⟨v4, rfl, hf4, hr4, ho4, g4, c4, hg4⟩; have hF4 : Fr (fun _ => False) w2 w4 := (Fr.drewr (Fr.refl _ _)).thenr hf4 (fun _ _ h => h)))
        all_goals
          subst hg4
          have hB4 := Blk.fr HB2.out hF4 (fun h => h)
          have hN4 := Blk.fr HN2.out hF4 (fun h => h)
          have hS4 := Blk.fr HS3.out hF4 (fun h => h)
          have hf14 := HF12.out.thenr hF4 (fun _ _ h => h)
          have hR4 := row_frB HR.out hf14 (fun _ _ h => h)
          have hg4 := ho4 g4 rfl
          have hsz4 : w2.drew.heap.size = w2.heap.size := rfl
          rw [hsz4] at hg4
          have hs4 := hF4.size
          have hR40 := HR.out
          rw [HCV.out] at hR4 hR40
          have hg0 := World.ownsRow.lt hR40 g0 rfl
          have z0 : w4.cell? ⟨wr.heap.size, 0, none⟩ = some (.int .u8 x.name.toNat) := by rw [Blk.cell hS4]; rfl
          clear d0 d1 raM hf4 hsz4 ho4 hR40
          have hnm := nmK_len st m st.length
          have HTL2 := HTL.out
          have hR5 := row_frB hR4 (Fr.alloc (fun _ => False) w4 (.cells #[.int .u8 47, .int .u8 x.name.toNat] 5)) (fun _ _ h => h)
          have hr5 := row_fr hr4 (Fr.alloc (fun _ => False) w4 (.cells #[.int .u8 47, .int .u8 x.name.toNat] 5)) (fun _ _ h => h)
          obtain ⟨nm, hnmE⟩ : ∃ nm, nmK st m st.length = nm := ⟨_, rfl⟩
          rw [hnmE] at HS2 hr4 hr5 hnm ⊢
          have HNM2 : Hid (nm.length ≤ 26) := by show _ ≤ _; omega
          clear hnmE hR4 hr4 hnm
          have HQ : Hid (∀ (w6 : World), World.grownBy (w4.alloc (.cells #[.int .u8 47, .int .u8 x.name.toNat] 5)) w6 (some g0) → w6.ownsRow 0 5 1 (.slice (some ⟨g4, 0, none⟩) nm.length c4) nm.length (byV nm) ∧ w4.heap.size + 1 ≤ w6.heap.size) := by
            intro w6 hg
            have f6 : Fr (fun j => (some g0 : Option Nat) = some j) _ w6 := Fr.grown _ hg (fun _ e => e)
            refine ⟨row_fr hr5 f6 ?_, ?_⟩
            · intro kk hkk e
              simp only [Value.ownBlock, Option.some.injEq] at hkk
              injection e with e
              omega
            · have := f6.size; simp at this; omega
          have hone : ∀ u ∈ byV nm, u.oneCell' = true := by intro u hu; simp only [byV, List.mem_map] at hu; obtain ⟨_, _, rfl⟩ := hu; rfl
          have HNM3 := HNM2.out
          go_wp2_with (at_builtin; first | (refine wpList_appendN rfl _ _ _ rfl (w.heap.size + 2) _ elemU8 g0 c0 tx.length (byV tx) rfl hR5 ⟨w4.heap.size, 0, none⟩ 2 2 [.int .u8 47, .int .u8 (x.name.toNat : Int)] rfl rfl (by exact cells_new (Blk.new' _ _ _ _ (by simp))) (by intro u hu; simp at hu; rcases hu with rfl | rfl <;> rfl) (by omega) (by simp; omega) ?_; intro g5 cap5 w6 hrow6 hgrow6 hgo6; obtain ⟨hr6, hs6⟩ := HQ.out w6 hgrow6) | go_must (refine wpList_appendN rfl _ _ _ rfl (w.heap.size + 2) _ elemU8 g5 cap5 (tx.length + 2) (byV tx ++ [.int .u8 47, .int .u8 (x.name.toNat : Int)]) rfl hrow6 ⟨g4, 0, none⟩ nm.length c4 (byV nm) rfl (by simp [byV]) (hr6.cells (g := g4) rfl) hone (by omega) (by omega) ?_; intro g7 cap7 w8 hrow8 hgrow8 hgo8))
          go_roundw
          case rel =>
            have f6 : Fr (fun j => (some g0 : Option Nat) = some j) _ w6 := Fr.grown _ hgrow6 (fun _ e => e)
            have f8 : Fr (fun j => (some g5 : Option Nat) = some j) _ w8 := Fr.grown _ hgrow8 (fun _ e => e)
            have hg5 : w.heap.size + 2 ≤ g5 := by
              rcases hgo6 with h | h
              · omega
              · simp at h; omega
            have hf8 : Fr (fun j => w.heap.size + 2 ≤ j) wr w8 := ((hf14.allocr _).trans f6 (U := fun j => w.heap.size + 2 ≤ j) (fun _ _ h => h.elim) (fun i hi e => by injection e with e; omega)).trans f8 (U := fun j => w.heap.size + 2 ≤ j) (fun _ _ h => h) (fun i hi e => by injection e with e; omega)
            have hbw8 : Blk w8 w.heap.size _ _ := Blk.fr hbq hf8 (by omega)
            have hnw8 : Blk w8 (w.heap.size + 1) _ _ := Blk.fr hnq hf8 (by omega)
            have hfw8 : Fr (fun _ => False) w w8 := hfr.trans hf8 (U := fun _ => False) (fun _ _ h => h) (fun i hi e => by omega)
            refine ⟨k + 1, _, by omega, by go_num, rfl, ?_, hbw8, hnw8, hfw8, g7, cap7, ?_⟩
            · rw [HS2.out]
              have e1 : ((tx ++ [47, x.name]) ++ nm).length = tx.length + 2 + nm.length := by simp; omega
              have e2 : byV ((tx ++ [47, x.name]) ++ nm) = byV tx ++ [.int .u8 47, .int .u8 (x.name.toNat : Int)] ++ byV nm := by simp [byV]
              rw [e1, e2]
              exact hrow8
            · rw [HS2.out]
              have e1 : ((tx ++ [47, x.name]) ++ nm).length = tx.length + 2 + nm.length := by simp; omega
              rw [e1]
          case measure => simp [intOf]; omega
    · have hkn : k = st.length := by omega
      subst hkn
      have HFR : Hid _ := hfr
      obtain ⟨g0, c0, hcv⟩ := HFO.out
      have hrow0 := row_dn hrow
      rw [hcv] at hrow0 ⊢
      have hcv2 := run_convert_bytes_back (P := Tryd.prog) wr 65 9 5 ⟨g0, 0, none⟩ c0 (stT st act mm st.length) Tryd.underlying65 Tryd.underlying5 Tryd.underlying9 (fun j hj => hrow0.cells (g := g0) rfl j _ (by simp [byV, hj]))
      clear hcv hrow hrow0 HFO
      obtain ⟨tx, htx⟩ : ∃ tx, stT st act mm st.length = tx := ⟨_, rfl⟩
      have HTX : Hid (stT st act mm st.length = tx) := htx
      rw [htx] at hcv2 ⊢
      clear htx
      go_wp2_with fail
      go_ret
      exact ⟨by rw [HTX.out]; rfl, HFR.out⟩
end Go.Proofs.YtmolmbeeoecnfabDoor
