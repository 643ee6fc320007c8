/- Own work: walks of the player: step, begin. -/
import Derived.Test.YtmolmbeeoecnfaaPyJ
namespace Go.Proofs.Ytmolmbeeoecnfaa
open Go.RowKit Go.BigFrame
set_option linter.unusedVariables false
set_option linter.unusedSimpArgs false

theorem cl1_in (st : List StP) (th : List TrH) (act : List Bool) (ev : UInt8) (acc : List Nat) (s : Nat) (h : ∀ n ∈ acc, n < th.length) : ∀ n ∈ cl1 st th act ev acc s, n < th.length := by
  have hb := cfF_bd st th act ev (st.length + 1) s
  unfold cl1
  split
  · split
    · rename_i h1 h2
      intro n hn
      rcases List.mem_append.1 hn with h3 | h3
      · exact h n h3
      · simp only [List.mem_singleton] at h3
        have h4 : cfO st th act ev s < (th.length : Int) := hb.2
        have h5 : -1 ≤ cfO st th act ev s := hb.1
        have h6 := h2.1
        omega
    · exact h
  · exact h
theorem clK_in (st : List StP) (th : List TrH) (act : List Bool) (ev : UInt8) : ∀ k, ∀ n ∈ clK st th act ev k, n < th.length
  | 0 => by intro n hn; simp [clK] at hn
  | k + 1 => by rw [clK_succ]; exact cl1_in st th act ev _ k (clK_in st th act ev k)
theorem wcF_in (st : List StP) (th : List TrH) (act : List Bool) : ∀ (ns : List Nat) (z : List Nat × List Bool), (∀ n ∈ (ns.foldl (wc1 st th act) z).1, n ∈ z.1 ∨ n ∈ ns) ∧ (ns.foldl (wc1 st th act) z).1.length ≤ z.1.length + ns.length
  | [], z => ⟨fun n hn => Or.inl hn, by simp⟩
  | a :: r, z => by
    have ih := wcF_in st th act r (wc1 st th act z a)
    rw [List.foldl_cons]
    have h1 : (∀ n ∈ (wc1 st th act z a).1, n ∈ z.1 ∨ n = a) ∧ (wc1 st th act z a).1.length ≤ z.1.length + 1 := by
      unfold wc1
      split
      · split
        · exact ⟨fun n hn => Or.inl hn, by omega⟩
        · refine ⟨fun n hn => ?_, by simp⟩
          rcases List.mem_append.1 hn with h | h
          · exact Or.inl h
          · exact Or.inr (by simpa using h)
      · exact ⟨fun n hn => Or.inl hn, by omega⟩
    refine ⟨fun n hn => ?_, by have := ih.2; have := h1.2; simp only [List.length_cons]; omega⟩
    rcases ih.1 n hn with h | h
    · rcases h1.1 n h with h2 | h2
      · exact Or.inl h2
      · exact Or.inr (by simp [h2])
    · exact Or.inr (by simp [h])
/-- What is taken by an event. -/
def tkn (st : List StP) (th : List TrH) (act : List Bool) (ev : UInt8) : List Nat := (wcL st th act (clL st th act ev)).1
theorem tkn_ok (st : List StP) (th : List TrH) (act : List Bool) (ev : UInt8) : (∀ n ∈ tkn st th act ev, n < th.length) ∧ (tkn st th act ev).length ≤ st.length := by
  have h := wcF_in st th act (clL st th act ev) ([], noSet)
  have h2 := clK_len st th act ev st.length
  refine ⟨fun n hn => ?_, ?_⟩
  · rcases h.1 n hn with h3 | h3
    · simp at h3
    · exact clK_in st th act ev _ n h3
  · have h3 := h.2
    simp only [List.length_nil, Nat.zero_add] at h3
    exact Nat.le_trans h3 h2
def tk1 (st : List StP) (th : List TrH) (p : Py) (n : Nat) : Py := match th[n]? with | some t => tkF st t.q p | none => p
def spF (st : List StP) (th : List TrH) (ev : UInt8) (p : Py) : Py := (tkn st th p.act ev).foldl (tk1 st th) p
def RmOk (st : List StP) : Prop := ∀ (k : Nat) (x : StP), st[k]? = some x → x.rem = true → x.kind ≠ 0
def TaOk (th : List TrH) : Prop := ∀ t ∈ th, t.q.acts.size ≤ 160

set_option maxRecDepth 100000 in
set_option maxHeartbeats 1000000 in
theorem step_any (w : World) (b : Nat) (st : List StP) (ws : Ws) (p : Py) (vo : Value) (ev : UInt8) (hwf : Wf st) (hsz : SzOk st) (hrm : RmOk st) (hp : PyV w b st ws p vo) (ht : ThOk st ws.th) (hta : TaOk ws.th) (hl : ws.th.length ≤ 1000000) (hb : p.out.length + 139586564000 ≤ 70000000000000) :
    Calls Try.prog 32 #[.pointer (some ⟨b, 0, none⟩), .int .u8 ev.toNat] w fun e w' => e = .returned (.tuple #[]) ∧ (spF st ws.th ev p).out.length ≤ p.out.length + 139586564000 ∧ ∃ vo', PyV w' b st ws (spF st ws.th ev p) vo' ∧ EvY b vo vo' w w' := by
  have HW : Hid (Wf st) := hwf
  have HSZ : Hid (SzOk st) := hsz
  have HRM : Hid (RmOk st) := hrm
  have HT : Hid (ThOk st ws.th) := ht
  have HTA : Hid (TaOk ws.th) := hta
  have HP : Hid (PyV w b st ws p vo) := hp
  have HB : Hid (p.out.length + 139586564000 ≤ 70000000000000) := hb
  have hlen := hwf.len
  have hbl := Blk.lt hp.blk
  have HN : Hid ((∀ n ∈ tkn st ws.th p.act ev, n < ws.th.length) ∧ (tkn st ws.th p.act ev).length ≤ st.length) := tkn_ok st ws.th p.act ev
  have HCL : Hid ((∀ n ∈ clL st ws.th p.act ev, n < ws.th.length) ∧ (clL st ws.th p.act ev).length ≤ st.length) := ⟨clK_in _ _ _ _ _, clK_len _ _ _ _ _⟩
  have HSP : Hid (spF st ws.th ev p = (tkn st ws.th p.act ev).foldl (tk1 st ws.th) p) := rfl
  have HWC : Hid ((wcL st ws.th p.act (clL st ws.th p.act ev)).1 = tkn st ws.th p.act ev) := rfl
  clear hwf hsz hrm ht hta hp hb
  go_enter Try.func32, Try.ntmps32
  go_wp2_with fail
  refine (called_any w b st ws p vo ev HW.out HP.out HT.out hl).mono ?_
  rintro e w1 ⟨v1, rfl, hf1, hr1, ho1⟩
  go_wp2_with fail
  refine (withoutClashes_any w1 b st ws p vo (clL st ws.th p.act ev) v1 HW.out (HP.out.fr0 hf1) HT.out hl hr1 HCL.out.1 (by have := HCL.out.2; omega)).mono ?_
  rintro e w2 ⟨v2, rfl, hf2, hr2, ho2⟩
  rw [HWC.out] at hr2
  clear HWC HCL ho1 hr1
  obtain ⟨hN1, hN2⟩ := HN.out
  generalize tkn st ws.th p.act ev = ns at *
  have hf12 := hf1.thenr hf2 (fun _ _ h => h)
  have HP2 : Hid (PyV w2 b st ws p vo) := HP.out.fr0 hf12
  have HE2 : Hid (EvY b vo vo w w2) := EvY.of_fr0 hf12
  have HNO : Hid (∀ k, v2.ownBlock = some k → ¬ OwnY b vo k) := by
    intro k hk ho
    have h1 := ho2 k hk
    have h3 := hf1.size
    rcases ho with h | h
    · omega
    · have := (HP.out.roB _ h).2; omega
  have HN1 : Hid (∀ n ∈ ns, n < ws.th.length) := hN1
  have HR2 : Hid (w2.ownsRow 0 3 1 v2 ns.length (inV ns)) := hr2
  obtain ⟨va, vc, hv⟩ := row_len hr2
  have HV : Hid (v2 = .slice va ns.length vc) := hv
  have hnl : ns.length ≤ 26 := by omega
  rw [hv]
  clear hr2 hN1 hN2 hf1 hf2 hf12 ho2 hv HN
  go_wp2_with fail
  go_loopg [16] 27 (fun g vi wr => ∃ (k : Nat) (q : Py) (vq : Value), k ≤ ns.length ∧ vi = .int .i64 k ∧ PyV wr b st ws q vq ∧ EvY b vo vq w wr ∧ wr.ownsRow 0 3 1 v2 ns.length (inV ns) ∧ (∀ k, v2.ownBlock = some k → ¬ OwnY b vq k) ∧ Hid (spF st ws.th ev p = (ns.drop k).foldl (tk1 st ws.th) q) ∧ Hid (q.out.length ≤ p.out.length + k * 5368714000) ∧ ns.length - k ≤ g)
  case atStart => exact ⟨0, p, vo, Nat.zero_le _, rfl, HP2.out, HE2.out, HR2.out, HNO.out, HSP, by show _ ≤ _; omega, by omega⟩
  case round =>
    obtain ⟨k, q, vq, hk, rfl, hpq, heq, hrq, hnq, HF, HL, hg⟩ := hrel
    by_cases hlt : (k : Int) < ns.length
    · have hlt' : k < ns.length := by omega
      obtain ⟨gn, cn, hvn, hcn⟩ := row_form hrq (by omega)
      have hvv := HV.out.symm.trans hvn
      injection hvv with q1 q2 q3
      subst q1
      subst q3
      clear q2
      have HRQ : Hid (wr.ownsRow 0 3 1 v2 ns.length (inV ns)) := hrq
      rw [hvn] at hrq
      obtain ⟨n, hn⟩ : ∃ n, ns[k]? = some n := ⟨_, List.getElem?_eq_getElem hlt'⟩
      have n0 := (row_cell hrq k _ (inV_get hn)).1
      have hnl2 : n < ws.th.length := HN1.out n (List.mem_of_getElem? hn)
      have hdrop : ns.drop k = n :: ns.drop (k + 1) := by
        rw [List.drop_eq_getElem_cons hlt']; congr 1; rw [List.getElem?_eq_getElem hlt'] at hn; simpa using hn
      obtain ⟨gt, ct, hvt, hct⟩ := row_form hpq.pl.r3 (by omega)
      have c1 := hpq.c1
      rw [hvt] at c1
      have hr3 := hpq.pl.r3
      rw [hvt] at hr3
      obtain ⟨x, hx⟩ : ∃ x, ws.th[n]? = some x := ⟨_, List.getElem?_eq_getElem hnl2⟩
      obtain ⟨x0, x1, x2, x3, x4, x5, x6, x7, x8⟩ := tr9 hr3 hx
      have hxm := List.mem_of_getElem? hx
      obtain ⟨ca, ck, hcv⟩ := row_len (hpq.pl.rc x hxm)
      rw [hcv] at x2
      have HF2 : Hid (spF st ws.th ev p = (ns.drop (k + 1)).foldl (tk1 st ws.th) (tkF st x.q q)) := by
        show _ = _; rw [HF.out, hdrop, List.foldl_cons, tk1, hx]
      have hto := (HT.out x hxm).1
      have hmul : k * 5368714000 ≤ 25 * 5368714000 := Nat.mul_le_mul_right _ (by omega)
      have hmul2 : (k + 1) * 5368714000 = k * 5368714000 + 5368714000 := Nat.succ_mul _ _
      have HTK : Hid (Calls Try.prog 51 #[.pointer (some ⟨b, 0, none⟩), .agg #[.int .i64 x.q.own, .int .u8 x.q.event.toNat, .slice ca x.q.conds.length ck, .int .u8 x.q.tn.toNat, .int .i64 x.q.tp, .int .i64 x.q.ts, .int .u8 x.q.mark.toNat, .int .i64 x.q.mp, .string x.q.acts]] wr fun e w' => e = .returned (.tuple #[]) ∧ (tkF st x.q q).out.length ≤ q.out.length + 5368714000 ∧ ∃ vo', PyV w' b st ws (tkF st x.q q) vo' ∧ EvY b vq vo' wr w') := by
        have h3 := ytake_any wr b st ws q vq x HW.out HSZ.out HRM.out hpq hto (HTA.out x hxm) (by have := HL.out; have := HB.out; omega)
        rw [show x.cells.toArray = #[.int .i64 x.q.own, .int .u8 x.q.event.toNat, x.cv, .int .u8 x.q.tn.toNat, .int .i64 x.q.tp, .int .i64 x.q.ts, .int .u8 x.q.mark.toNat, .int .i64 x.q.mp, .string x.q.acts] from rfl, hcv] at h3
        exact h3
      have HL2 : Hid (∀ n : Nat, n ≤ q.out.length + 5368714000 → n ≤ p.out.length + (k + 1) * 5368714000) := by intro n hn; have := HL.out; omega
      have HPQ : Hid (PyV wr b st ws q vq) := hpq
      clear hrq hn hdrop hvt hr3 hx hxm hcv hto HF hpq hvn hmul hmul2
      go_wp2_with fail
      refine HTK.out.mono ?_
      rintro e w4 ⟨rfl, hl4, vo4, hp4, he4⟩
      have HL4 : Hid ((tkF st x.q q).out.length ≤ p.out.length + (k + 1) * 5368714000) := HL2.out _ hl4
      have hr4 := row_fr HRQ.out he4.fr hnq
      have hn4 : ∀ k, v2.ownBlock = some k → ¬ OwnY b vo4 k := fun j hj ho => hnq j hj (he4.own j (HRQ.out.lt j hj).2 ho)
      clear hl4 HL2 HTK
      go_wp2_with fail
      go_roundg (ns.length - (k + 1))
      case measure => omega
      case rel => exact ⟨k + 1, _, vo4, by omega, by go_num, hp4, heq.trans he4, hr4, hn4, HF2, HL4, Nat.le_refl _⟩
    · have hkn : k = ns.length := by omega
      have HF2 : Hid (spF st ws.th ev p = q) := by show _ = _; rw [HF.out, hkn]; simp
      have HL2 : Hid (q.out.length ≤ p.out.length + 139586564000) := by
        have h1 := HL.out
        have hmul : k * 5368714000 ≤ 26 * 5368714000 := Nat.mul_le_mul_right _ (by omega)
        show _ ≤ _
        omega
      clear HF HL hkn
      go_wp2_with fail
      go_end0
      rw [HF2.out]
      exact ⟨rfl, HL2.out, vq, hpq, heq⟩

set_option maxRecDepth 100000 in
set_option maxHeartbeats 1000000 in
theorem begin_any (w : World) (b : Nat) (st : List StP) (ws : Ws) (p : Py) (vo : Value) (hwf : Wf st) (hsz : SzOk st) (hs0 : 0 < st.length) (hp : PyV w b st ws p vo) (hb : p.out.length + 5368709120 ≤ 70000000000000) :
    Calls Try.prog 31 #[.pointer (some ⟨b, 0, none⟩)] w fun e w' => e = .returned (.tuple #[]) ∧ (enF st 26 0 Am.free p).out.length ≤ p.out.length + 5368709120 ∧ ∃ vo', PyV w' b st ws (enF st 26 0 Am.free p) vo' ∧ EvY b vo vo' w w' := by
  have hlen := hwf.len
  have HE : Hid (Calls Try.prog 48 #[.pointer (some ⟨b, 0, none⟩), .int .i64 0, .agg #[.int .i64 (-1), .int .u8 0, .int .i64 (-1)]] w fun e w' => e = .returned (.tuple #[]) ∧ (enF st 26 0 Am.free p).out.length ≤ p.out.length + 5368709120 ∧ ∃ vo', PyV w' b st ws (enF st 26 0 Am.free p) vo' ∧ EvY b vo vo' w w') :=
    enter_all st ws b hwf hsz 26 w p vo 0 Am.free hp hs0 (by omega) ⟨Int.le_refl _, by show (-1 : Int) < _; omega, Int.le_refl _, by show (-1 : Int) < _; omega⟩ hb
  clear hp hwf hsz
  go_enter Try.func31, Try.ntmps31
  go_wp2_with fail
  refine HE.out.mono ?_
  rintro e w2 ⟨rfl, hl, vo2, hp2, he2⟩
  have HL : Hid _ := hl
  clear hl
  go_wp2_with fail
  go_end0
  exact ⟨rfl, HL.out, vo2, hp2, he2⟩
end Go.Proofs.Ytmolmbeeoecnfaa
