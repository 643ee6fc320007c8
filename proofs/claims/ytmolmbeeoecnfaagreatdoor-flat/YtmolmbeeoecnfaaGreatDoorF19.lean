/- Own work: PyZ5, PyZ6, CoE. -/
import Derived.Test.YtmolmbeeoecnfaaGreatDoorF18
import Derived.Maps.AppendAt
import Derived.Laws.Tables
import Derived.DeepKeys
/- Own work: walks of the player: step, begin. -/
namespace Go.Proofs.YtmolmbeeoecnfaaGreatDoor
open Go.RowKit Go.BigFrame
set_option linter.unusedVariables false
set_option linter.unusedSimpArgs false

theorem cl1_in (st : List StP) (th : List TrH) (act : List Bool) (ev : UInt8) (acc : List Nat) (s : Nat) (h : ∀ n ∈ acc, n < th.length) : ∀ n ∈ cl1 st th act ev acc s, n < th.length := by
 have hb := cfF_bd st th act ev (st.length + 1) s
 unfold cl1
 split
 ·split
  ·rename_i h1 h2
   intro n hn
   rcases List.mem_append.1 hn with h3 | h3
   ·exact h n h3
   ·simp only [List.mem_singleton] at h3
    have h4 : cfO st th act ev s < (th.length : Int) := hb.2
    have h5 : -1 ≤ cfO st th act ev s := hb.1
    have h6 := h2.1
    omega
  ·exact h
 ·exact h
theorem clK_in (st : List StP) (th : List TrH) (act : List Bool) (ev : UInt8) : ∀ k, ∀ n ∈ clK st th act ev k, n < th.length
 | 0 => by intro n hn; simp [clK] at hn
 | k + 1 => by rw [clK_succ]; exact cl1_in st th act ev _ k (clK_in st th act ev k)
theorem wcF_in (st : List StP) (th : List TrH) (act : List Bool) : ∀ (ns : List Nat) (z : List Nat × List Bool), (∀ n ∈ (ns.foldl (wc1 st th act) z).1, n ∈ z.1 ∨ n ∈ ns) ∧ (ns.foldl (wc1 st th act) z).1.length ≤ z.1.length + ns.length
 | [], z => ⟨fun n hn => Or.inl hn, by simp⟩
 | a :: r, z => by
  have ih := wcF_in st th act r (wc1 st th act z a)
  rw [List.foldl_cons]
  have h1 : (∀ n ∈ (wc1 st th act z a).1, n ∈ z.1 ∨ n = a) ∧ (wc1 st th act z a).1.length ≤ z.1.length + 1 := by
   unfold wc1
   split
   ·split
    ·exact ⟨fun n hn => Or.inl hn, by omega⟩
    ·refine ⟨fun n hn => ?_, by simp⟩
     rcases List.mem_append.1 hn with h | h
     ·exact Or.inl h
     ·exact Or.inr (by simpa using h)
   ·exact ⟨fun n hn => Or.inl hn, by omega⟩
  refine ⟨fun n hn => ?_, by have := ih.2; have := h1.2; simp only [List.length_cons]; omega⟩
  rcases ih.1 n hn with h | h
  ·rcases h1.1 n h with h2 | h2
   ·exact Or.inl h2
   ·exact Or.inr (by simp [h2])
  ·exact Or.inr (by simp [h])
def tkn (st : List StP) (th : List TrH) (act : List Bool) (ev : UInt8) : List Nat := (wcL st th act (clL st th act ev)).1
theorem tkn_ok (st : List StP) (th : List TrH) (act : List Bool) (ev : UInt8) : (∀ n ∈ tkn st th act ev, n < th.length) ∧ (tkn st th act ev).length ≤ st.length := by
 have h := wcF_in st th act (clL st th act ev) ([], noSet)
 have h2 := clK_len st th act ev st.length
 refine ⟨fun n hn => ?_, ?_⟩
 ·rcases h.1 n hn with h3 | h3
  ·simp at h3
  ·exact clK_in st th act ev _ n h3
 ·have h3 := h.2
  simp only [List.length_nil, Nat.zero_add] at h3
  exact Nat.le_trans h3 h2
def tk1 (st : List StP) (th : List TrH) (p : Py) (n : Nat) : Py := match th[n]? with | some t => tkF st t.q p | none => p
def spF (st : List StP) (th : List TrH) (ev : UInt8) (p : Py) : Py := (tkn st th p.act ev).foldl (tk1 st th) p
def RmOk (st : List StP) : Prop := ∀ (k : Nat) (x : StP), st[k]? = some x → x.rem = true → x.kind ≠ 0
def TaOk (th : List TrH) : Prop := ∀ t ∈ th, t.q.acts.size ≤ 160

set_option maxRecDepth 100000 in
set_option maxHeartbeats 1000000 in
theorem step_any (w : World) (b : Nat) (st : List StP) (ws : Wp) (p : Py) (vo : Value) (ev : UInt8) (hwf : Wf st) (hsz : SzOk st) (hrm : RmOk st) (hp : PyV w b st ws p vo) (ht : ThOk st ws.th) (hta : TaOk ws.th) (hl : ws.th.length ≤ 1000000) (hb : p.out.length + 139586564000 ≤ 70000000000000) :
  Calls Tryz.prog 44 #[.pointer (some ⟨b, 0, none⟩), .int .u8 ev.toNat] w fun e w' => e = .returned (.tuple #[]) ∧ (spF st ws.th ev p).out.length ≤ p.out.length + 139586564000 ∧ ∃ vo', PyV w' b st ws (spF st ws.th ev p) vo' ∧ EvY b vo vo' w w' := by
 have HW : Hid (Wf st) := hwf
 have HSZ : Hid (SzOk st) := hsz
 have HRM : Hid (RmOk st) := hrm
 have HT : Hid (ThOk st ws.th) := ht
 have HTA : Hid (TaOk ws.th) := hta
 have HP : Hid (PyV w b st ws p vo) := hp
 have HB : Hid (p.out.length + 139586564000 ≤ 70000000000000) := hb
 have hlen := hwf.len
 have hbl := Blk.lt hp.blk
 have HN : Hid ((∀ n ∈ tkn st ws.th p.act ev, n < ws.th.length) ∧ (tkn st ws.th p.act ev).length ≤ st.length) := tkn_ok st ws.th p.act ev
 have HCL : Hid ((∀ n ∈ clL st ws.th p.act ev, n < ws.th.length) ∧ (clL st ws.th p.act ev).length ≤ st.length) := ⟨clK_in _ _ _ _ _, clK_len _ _ _ _ _⟩
 have HSP : Hid (spF st ws.th ev p = (tkn st ws.th p.act ev).foldl (tk1 st ws.th) p) := rfl
 have HWC : Hid ((wcL st ws.th p.act (clL st ws.th p.act ev)).1 = tkn st ws.th p.act ev) := rfl
 clear hwf hsz hrm ht hta hp hb
 go_enter Tryz.func44, Tryz.ntmps44
 go_wp2_with fail
 refine (called_any w b st ws p vo ev HW.out HP.out HT.out hl).mono ?_
 rintro e w1 ⟨v1, rfl, hf1, hr1, ho1⟩
 go_wp2_with fail
 refine (withoutClashes_any w1 b st ws p vo (clL st ws.th p.act ev) v1 HW.out (HP.out.fr0 hf1) HT.out hl hr1 HCL.out.1 (by have := HCL.out.2; omega)).mono ?_
 rintro e w2 ⟨v2, rfl, hf2, hr2, ho2⟩
 rw [HWC.out] at hr2
 clear HWC HCL ho1 hr1
 obtain ⟨hN1, hN2⟩ := HN.out
 generalize tkn st ws.th p.act ev = ns at *
 have hf12 := hf1.thenr hf2 (fun _ _ h => h)
 have HP2 : Hid (PyV w2 b st ws p vo) := HP.out.fr0 hf12
 have HE2 : Hid (EvY b vo vo w w2) := EvY.of_fr0 hf12
 have HNO : Hid (∀ k, v2.ownBlock = some k → ¬ OwnY b vo k) := by
  intro k hk ho
  have h1 := ho2 k hk
  have h3 := hf1.size
  rcases ho with h | h
  ·omega
  ·have := (HP.out.roB _ h).2; omega
 have HN1 : Hid (∀ n ∈ ns, n < ws.th.length) := hN1
 have HR2 : Hid (w2.ownsRow 0 3 1 v2 ns.length (inV ns)) := hr2
 obtain ⟨va, vc, hv⟩ := row_len hr2
 have HV : Hid (v2 = .slice va ns.length vc) := hv
 have hnl : ns.length ≤ 26 := by omega
 rw [hv]
 clear hr2 hN1 hN2 hf1 hf2 hf12 ho2 hv HN
 go_wp2_with fail
 go_loopg [16] 27 (fun g vi wr => ∃ (k : Nat) (q : Py) (vq : Value), k ≤ ns.length ∧ vi = .int .i64 k ∧ PyV wr b st ws q vq ∧ EvY b vo vq w wr ∧ wr.ownsRow 0 3 1 v2 ns.length (inV ns) ∧ (∀ k, v2.ownBlock = some k → ¬ OwnY b vq k) ∧ Hid (spF st ws.th ev p = (ns.drop k).foldl (tk1 st ws.th) q) ∧ Hid (q.out.length ≤ p.out.length + k * 5368714000) ∧ ns.length - k ≤ g)
 case atStart => exact ⟨0, p, vo, Nat.zero_le _, rfl, HP2.out, HE2.out, HR2.out, HNO.out, HSP, by show _ ≤ _; omega, by omega⟩
 case round =>
  obtain ⟨k, q, vq, hk, rfl, hpq, heq, hrq, hnq, HF, HL, hg⟩ := hrel
  by_cases hlt : (k : Int) < ns.length
  ·have hlt' : k < ns.length := by omega
   obtain ⟨gn, cn, hvn, hcn⟩ := row_form hrq (by omega)
   have hvv := HV.out.symm.trans hvn
   injection hvv with q1 q2 q3
   subst q1
   subst q3
   clear q2
   have HRQ : Hid (wr.ownsRow 0 3 1 v2 ns.length (inV ns)) := hrq
   rw [hvn] at hrq
   obtain ⟨n, hn⟩ : ∃ n, ns[k]? = some n := ⟨_, List.getElem?_eq_getElem hlt'⟩
   have n0 := (row_cell hrq k _ (inV_get hn)).1
   have hnl2 : n < ws.th.length := HN1.out n (List.mem_of_getElem? hn)
   have hdrop : ns.drop k = n :: ns.drop (k + 1) := by
    rw [List.drop_eq_getElem_cons hlt']; congr 1; rw [List.getElem?_eq_getElem hlt'] at hn; simpa using hn
   obtain ⟨gt, ct, hvt, hct⟩ := row_form hpq.pl.r3 (by omega)
   have c1 := hpq.c1
   rw [hvt] at c1
   have hr3 := hpq.pl.r3
   rw [hvt] at hr3
   obtain ⟨x, hx⟩ : ∃ x, ws.th[n]? = some x := ⟨_, List.getElem?_eq_getElem hnl2⟩
   obtain ⟨x0, x1, x2, x3, x4, x5, x6, x7, x8⟩ := tr9 hr3 hx
   have hxm := List.mem_of_getElem? hx
   obtain ⟨ca, ck, hcv⟩ := row_len (hpq.pl.rc x hxm)
   rw [hcv] at x2
   have HF2 : Hid (spF st ws.th ev p = (ns.drop (k + 1)).foldl (tk1 st ws.th) (tkF st x.q q)) := by
    show _ = _; rw [HF.out, hdrop, List.foldl_cons, tk1, hx]
   have hto := (HT.out x hxm).1
   have hmul : k * 5368714000 ≤ 25 * 5368714000 := Nat.mul_le_mul_right _ (by omega)
   have hmul2 : (k + 1) * 5368714000 = k * 5368714000 + 5368714000 := Nat.succ_mul _ _
   have HTK : Hid (Calls Tryz.prog 70 #[.pointer (some ⟨b, 0, none⟩), .agg #[.int .i64 x.q.own, .int .u8 x.q.event.toNat, .slice ca x.q.conds.length ck, .int .u8 x.q.tn.toNat, .int .i64 x.q.tp, .int .i64 x.q.ts, .int .u8 x.q.mark.toNat, .int .i64 x.q.mp, .string x.q.acts]] wr fun e w' => e = .returned (.tuple #[]) ∧ (tkF st x.q q).out.length ≤ q.out.length + 5368714000 ∧ ∃ vo', PyV w' b st ws (tkF st x.q q) vo' ∧ EvY b vq vo' wr w') := by
    have h3 := ytake_any wr b st ws q vq x HW.out HSZ.out HRM.out hpq hto (HTA.out x hxm) (by have := HL.out; have := HB.out; omega)
    rw [show x.cells.toArray = #[.int .i64 x.q.own, .int .u8 x.q.event.toNat, x.cv, .int .u8 x.q.tn.toNat, .int .i64 x.q.tp, .int .i64 x.q.ts, .int .u8 x.q.mark.toNat, .int .i64 x.q.mp, .string x.q.acts] from rfl, hcv] at h3
    exact h3
   have HL2 : Hid (∀ n : Nat, n ≤ q.out.length + 5368714000 → n ≤ p.out.length + (k + 1) * 5368714000) := by intro n hn; have := HL.out; omega
   have HPQ : Hid (PyV wr b st ws q vq) := hpq
   clear hrq hn hdrop hvt hr3 hx hxm hcv hto HF hpq hvn hmul hmul2
   go_wp2_with fail
   refine HTK.out.mono ?_
   rintro e w4 ⟨rfl, hl4, vo4, hp4, he4⟩
   have HL4 : Hid ((tkF st x.q q).out.length ≤ p.out.length + (k + 1) * 5368714000) := HL2.out _ hl4
   have hr4 := row_fr HRQ.out he4.fr hnq
   have hn4 : ∀ k, v2.ownBlock = some k → ¬ OwnY b vo4 k := fun j hj ho => hnq j hj (he4.own j (HRQ.out.lt j hj).2 ho)
   clear hl4 HL2 HTK
   go_wp2_with fail
   go_roundg (ns.length - (k + 1))
   case measure => omega
   case rel => exact ⟨k + 1, _, vo4, by omega, by go_num, hp4, heq.trans he4, hr4, hn4, HF2, HL4, Nat.le_refl _⟩
  ·have hkn : k = ns.length := by omega
   have HF2 : Hid (spF st ws.th ev p = q) := by show _ = _; rw [HF.out, hkn]; simp
   have HL2 : Hid (q.out.length ≤ p.out.length + 139586564000) := by
    have h1 := HL.out
    have hmul : k * 5368714000 ≤ 26 * 5368714000 := Nat.mul_le_mul_right _ (by omega)
    show _ ≤ _
    omega
   clear HF HL hkn
   go_wp2_with fail
   go_end0
   rw [HF2.out]
   exact ⟨rfl, HL2.out, vq, hpq, heq⟩

set_option maxRecDepth 100000 in
set_option maxHeartbeats 1000000 in
theorem begin_any (w : World) (b : Nat) (st : List StP) (ws : Wp) (p : Py) (vo : Value) (hwf : Wf st) (hsz : SzOk st) (hs0 : 0 < st.length) (hp : PyV w b st ws p vo) (hb : p.out.length + 5368709120 ≤ 70000000000000) :
  Calls Tryz.prog 30 #[.pointer (some ⟨b, 0, none⟩)] w fun e w' => e = .returned (.tuple #[]) ∧ (enF st 26 0 Am.free p).out.length ≤ p.out.length + 5368709120 ∧ ∃ vo', PyV w' b st ws (enF st 26 0 Am.free p) vo' ∧ EvY b vo vo' w w' := by
 have hlen := hwf.len
 have HE : Hid (Calls Tryz.prog 43 #[.pointer (some ⟨b, 0, none⟩), .int .i64 0, .agg #[.int .i64 (-1), .int .u8 0, .int .i64 (-1)]] w fun e w' => e = .returned (.tuple #[]) ∧ (enF st 26 0 Am.free p).out.length ≤ p.out.length + 5368709120 ∧ ∃ vo', PyV w' b st ws (enF st 26 0 Am.free p) vo' ∧ EvY b vo vo' w w') :=
  enter_all st ws b hwf hsz 26 w p vo 0 Am.free hp hs0 (by omega) ⟨Int.le_refl _, by show (-1 : Int) < _; omega, Int.le_refl _, by show (-1 : Int) < _; omega⟩ hb
 clear hp hwf hsz
 go_enter Tryz.func30, Tryz.ntmps30
 go_wp2_with fail
 refine HE.out.mono ?_
 rintro e w2 ⟨rfl, hl, vo2, hp2, he2⟩
 have HL : Hid _ := hl
 clear hl
 go_wp2_with fail
 go_end0
 exact ⟨rfl, HL.out, vo2, hp2, he2⟩

def nameAt (st : List StP) (k : Nat) : UInt8 := match st[k]? with | some x => x.name | none => 0
theorem nameAt_at {st : List StP} {k : Nat} {x : StP} (h : st[k]? = some x) : nameAt st k = x.name := by simp [nameAt, h]
def nmK (st : List StP) (l : List Bool) : Nat → List UInt8
 | 0 => []
 | k + 1 => if mem l k = true then nmK st l k ++ [nameAt st k] else nmK st l k
theorem nmK_len (st : List StP) (l : List Bool) : ∀ k, (nmK st l k).length ≤ k
 | 0 => Nat.le_refl _
 | k + 1 => by
  have := nmK_len st l k
  rw [nmK]; split
  ·simp; omega
  ·omega


def stT (st : List StP) (act : List Bool) (mm : List (List Bool)) : Nat → List UInt8
 | 0 => nmK st act st.length
 | k + 1 => if emp (memAt mm k) = true then stT st act mm k else (stT st act mm k ++ [47, nameAt st k]) ++ nmK st (memAt mm k) st.length
theorem stT_len (st : List StP) (act : List Bool) (mm : List (List Bool)) (h : st.length ≤ 26) : ∀ k, (stT st act mm k).length ≤ 26 + k * 28
 | 0 => by have := nmK_len st act st.length; rw [stT]; omega
 | k + 1 => by
  have h1 := stT_len st act mm h k
  have h2 := nmK_len st (memAt mm k) st.length
  rw [stT]; split
  ·omega
  ·simp only [List.length_append, List.length_cons, List.length_nil]; omega
def nowC (act : List Bool) (mm : List (List Bool)) : List Value := bV act ++ mmC mm
theorem row_dn {w : World} {e : TypeId} {sz : Nat} {v : Value} {n : Nat} {xs : List Value} {B : Nat} (h : w.ownsRow B e sz v n xs) : w.ownsRow 0 e sz v n xs := by
 refine ⟨h.1, ?_⟩
 rcases h.2 with hn | ⟨g, cap, cur, rfl, _, hg, rest⟩
 ·exact .inl hn
 ·exact .inr ⟨g, cap, cur, rfl, Nat.zero_le _, hg, rest⟩


def py0 : Py := ⟨noSet, List.replicate 26 noSet, []⟩
theorem py0_ok : PyOk py0 := ⟨rfl, rfl, by intro m hm; simp only [py0, List.mem_replicate] at hm; rw [hm.2]; rfl⟩
def nilV : Value := .slice none 0 0
def pyA (v2 v3 : Value) : Array Value := (pyC ⟨v2, v3, [], [], 84⟩ py0 nilV).toArray
set_option maxRecDepth 1000000 in
theorem built_py (v2 v3 : Value) : Tryz.prog.built 84 [(0, .agg #[v2, v3])] = some (pyA v2 v3) := by kernel_rfl
theorem size_now : (Tryz.prog.info? 81).map (·.size) = some 702 := by kernel_rfl
theorem pyA_size (v2 v3 : Value) : (pyA v2 v3).size = 705 := by rw [pyA, List.size_toArray, pyC_len py0_ok]; rfl
theorem PyV.rnow {w : World} {b : Nat} {st : List StP} {ws : Wp} {p : Py} {vo : Value} (h : PyV w b st ws p vo) : w.rangeAt b 2 (nowC p.act p.mm) := fun j v hv => by
 have hj := (List.getElem?_eq_some_iff.1 hv).1
 rw [Blk.cell h.blk, ← hv, List.getElem?_toArray, pyC, List.getElem?_append_right (by simp), nowC, ← List.append_assoc, List.getElem?_append_left (by simpa [nowC] using hj)]
 congr 1
 simp

structure PlOk (st : List StP) (tr : List TrQ) : Prop where
 wf : Wf st
 sz : SzOk st
 rm : RmOk st
 s0 : 0 < st.length
 trs : ∀ t ∈ tr, TrOk st t ∧ CdOn t.conds ∧ t.conds.length ≤ 1000000 ∧ t.acts.size ≤ 160
 tl : tr.length ≤ 1000000
theorem PlOk.th {st : List StP} {th : List TrH} (h : PlOk st (th.map TrH.q)) : ThOk st th ∧ TaOk th ∧ th.length ≤ 1000000 := by
 refine ⟨fun t ht => ?_, fun t ht => ?_, by have := h.tl; simpa using this⟩
 ·have h1 := h.trs t.q (List.mem_map_of_mem ht); exact ⟨h1.1, h1.2.1, h1.2.2.1⟩
 ·exact (h.trs t.q (List.mem_map_of_mem ht)).2.2.2
def evStep (st : List StP) (th : List TrH) (p : Py) (ev : UInt8) : Py := spF st th ev { p with out := p.out ++ [46] }
def plK (st : List StP) (th : List TrH) (es : ByteArray) : Nat → Py
 | 0 => enF st 26 0 Am.free py0
 | k + 1 => evStep st th (plK st th es k) (byte es k)

theorem wpList_appendP {P : Program} {w : World} {ops : Array Oper} {rest : List Oper} {o : Oper} {a : Act} {Q : Exit → Act → World → Prop} (hgd : o.guard = none) (s x : Operand) (t : TypeId)
  (ho : o.op = .call { callee := .builtin .append, args := #[s, x], argTypes := #[t, t] })
  (base : Nat) (e : TypeId) (he : ElemOk P t e 1 1) (v : Value) (n : Nat) (xs : List Value) (hs : a.eval s = v) (hown : w.ownsRow base e 1 v n xs)
  (ad : Addr) (m c : Nat) (news : List Value) (hx : a.eval x = .slice (some ad) m c) (hl : news.length = m) (hnews : ∀ j u, news[j]? = some u → w.cell? (ad.add j) = some u) (h1 : ∀ u ∈ news, u.oneCell' = true)
  (h63 : n + m ≤ 140737488355328) (hbase : base ≤ w.heap.size)
  (h : ∀ ra rc w', w'.ownsRow base e 1 (.slice ra (n + m) rc) (n + m) (xs ++ news) → w.grownBy w' v.ownBlock → (∀ k, k < w.heap.size → (Value.slice ra (n + m) rc).ownBlock = some k → v.ownBlock = some k) → wpList P ops Q rest (a.put o.dst (.slice ra (n + m) rc)) w') :
  wpList P ops Q (o :: rest) a w := by
 obtain ⟨ht, ⟨i, z, hi, hz, hsize, hby, hzs⟩, hsz⟩ := he
 refine wpList_append_own_at (P := P) w hgd s x t ho base e i z 1 1 ht hi hz hsize hby hzs hsz _ n xs hs hown ad m c news hx (by omega) hnews h1 (by unfold maxLen; omega) (by omega) hbase ?_
 intro v' w' h2 h3 h4 h5
 obtain ⟨ra, rc, rfl⟩ := row_lenB h2
 refine h ra rc w' h2 h3 ?_
 intro k hk ho'
 rcases h5 with h5 | h5
 ·rw [← h5]; exact ho'
 ·rw [h5] at ho'; injection ho' with ho'; omega
theorem conv_row {w : World} {B : Nat} {v : Value} {l : List UInt8} (h : w.ownsRow B 5 1 v l.length (byV l)) : Sem.run Tryz.prog (convert 82 9 v) w = .ok (.string ⟨l.toArray⟩) w := by
 have h0 := row_dn h
 rcases h.2 with ⟨rfl, hn⟩ | ⟨g, cap, cur, rfl, _⟩
 ·have hl : l = [] := List.length_eq_zero_iff.1 hn
  subst hl
  rw [run_convert_bytes_string (P := Tryz.prog) w 82 9 5 none 0 0 Tryz.underlying82 Tryz.underlying5 Tryz.underlying9]
  first | rfl | simp [Conv.bytesToString]
 ·exact run_convert_bytes_back (P := Tryz.prog) w 82 9 5 ⟨g, 0, none⟩ cap l Tryz.underlying82 Tryz.underlying5 Tryz.underlying9 (fun j hj => h0.cells (g := g) rfl j _ (by simp [byV, hj]))


abbrev Sx := List Bool × List (List Bool)
structure SxOk (x : Sx) : Prop where
 la : x.1.length = 26
 lm : x.2.length = 26
 le : ∀ m ∈ x.2, m.length = 26
def bitsS (x : Sx) : List Bool := x.1 ++ x.2.flatten
def sxC (x : Sx) : List Value := nowC x.1 x.2
theorem mmC_bits : ∀ mm : List (List Bool), mmC mm = bV mm.flatten
 | [] => rfl
 | m :: mm => by
  have ih := mmC_bits mm
  simp only [mmC, List.flatMap_cons] at ih ⊢
  rw [ih, List.flatten_cons]
  simp [bV]
theorem sxC_bits (x : Sx) : sxC x = bV (bitsS x) := by
 unfold sxC nowC bitsS
 rw [mmC_bits]
 simp [bV]
theorem flatB_len (n : Nat) : ∀ l : List (List Bool), (∀ m ∈ l, m.length = n) → l.flatten.length = l.length * n
 | [], _ => by simp
 | m :: l, h => by
  have ih := flatB_len n l (fun m hm => h m (by simp [hm]))
  have h1 := h m (by simp)
  rw [List.flatten_cons, List.length_append, ih, h1, List.length_cons, Nat.succ_mul]
  omega
theorem flat_inj (n : Nat) : ∀ l k : List (List Bool), (∀ m ∈ l, m.length = n) → (∀ m ∈ k, m.length = n) → l.length = k.length → l.flatten = k.flatten → l = k
 | [], [], _, _, _, _ => rfl
 | [], _ :: _, _, _, h, _ => by simp at h
 | _ :: _, [], _, _, h, _ => by simp at h
 | a :: l, b :: k, hl, hk, hlen, he => by
  rw [List.flatten_cons, List.flatten_cons] at he
  obtain ⟨e1, e2⟩ := List.append_inj he (by rw [hl a (by simp), hk b (by simp)])
  rw [e1, flat_inj n l k (fun m hm => hl m (by simp [hm])) (fun m hm => hk m (by simp [hm])) (by simpa using hlen) e2]
theorem SxOk.len {x : Sx} (h : SxOk x) : (bitsS x).length = 702 := by
 unfold bitsS
 rw [List.length_append, flatB_len 26 _ h.le, h.la, h.lm]
theorem bits_inj {x y : Sx} (hx : SxOk x) (hy : SxOk y) (h : bitsS x = bitsS y) : x = y := by
 unfold bitsS at h
 obtain ⟨e1, e2⟩ := List.append_inj h (by rw [hx.la, hy.la])
 exact Prod.ext e1 (flat_inj 26 _ _ hx.le hy.le (by rw [hx.lm, hy.lm]) e2)


theorem mapM_all {α β : Type} {g : α → Option β} {f : α → β} : ∀ l : List α, (∀ a ∈ l, g a = some (f a)) → l.mapM g = some (l.map f)
 | [], _ => rfl
 | a :: l, h => by
  rw [List.mapM_cons, h a (by simp), mapM_all l (fun b hb => h b (by simp [hb]))]
  rfl
def BoolT (d : Nat) (t : TypeId) (n : Nat) : Prop := ∀ bs : List Bool, bs.length = n → Tryz.prog.keyLits d t (bV bs) = some (bs.map Lit.bool)
theorem boolT_bool (d : Nat) : BoolT (d + 1) 4 1 := by
 intro bs h
 obtain ⟨b, rfl⟩ : ∃ b, bs = [b] := by
  match bs, h with
  | [b], _ => exact ⟨b, rfl⟩
 simp [Program.keyLits, Tryz.underlying4, bV]
theorem chunks (n : Nat) : ∀ (k : Nat) (bs : List Bool), bs.length = k * n → ((List.range k).map fun i => ((bs.drop (i * n)).take n).map Lit.bool).flatten = bs.map Lit.bool
 | 0, bs, h => by
  have : bs = [] := List.length_eq_zero_iff.1 (by omega)
  subst this; rfl
 | k + 1, bs, h => by
  rw [Nat.succ_mul] at h
  have ih := chunks n k (bs.drop n) (by rw [List.length_drop]; omega)
  rw [List.range_succ_eq_map, List.map_cons, List.map_map, List.flatten_cons]
  have e : ((fun i => ((bs.drop (i * n)).take n).map Lit.bool) ∘ Nat.succ) = fun i => (((bs.drop n).drop (i * n)).take n).map Lit.bool := by
   funext i
   simp only [Function.comp]
   rw [List.drop_drop, Nat.succ_mul, Nat.add_comm]
  rw [e, ih, Nat.zero_mul, List.drop_zero, ← List.map_append, List.take_append_drop]
theorem boolT_array {d n k : Nat} {t e : TypeId} (h : BoolT d e n) (hu : Tryz.prog.underlying t = some (.array k e)) (hc : Tryz.prog.cellsOf t = k * n) (hn : Tryz.prog.cellsOf e = n) : BoolT (d + 1) t (k * n) := by
 intro bs hl
 have e1 : ((List.range k).mapM fun i => Tryz.prog.keyLits d e (((bV bs).drop (i * Tryz.prog.cellsOf e)).take (Tryz.prog.cellsOf e))) = some ((List.range k).map fun i => ((bs.drop (i * n)).take n).map Lit.bool) := by
  apply mapM_all
  intro i hi
  have hik : i < k := by simpa using hi
  have e2 : ((bV bs).drop (i * Tryz.prog.cellsOf e)).take (Tryz.prog.cellsOf e) = bV ((bs.drop (i * n)).take n) := by
   rw [hn]; simp [bV, List.map_take, List.map_drop]
  rw [e2]
  refine h _ ?_
  rw [List.length_take, List.length_drop, hl]
  have : (i + 1) * n ≤ k * n := Nat.mul_le_mul_right _ (by omega)
  rw [Nat.succ_mul] at this
  omega
 have hlen : (bV bs).length = Tryz.prog.cellsOf t := by rw [bV_len, hl, hc]
 unfold Program.keyLits
 rw [hu]
 simp only [hlen, if_true, e1, Option.map_some]
 rw [chunks n k bs hl]
theorem boolT_set (d : Nat) : BoolT (d + 2) 78 (26 * 1) := boolT_array (boolT_bool d) Tryz.underlying78 (by kernel_rfl) (by kernel_rfl)
theorem boolT_mem : BoolT 3 79 (26 * (26 * 1)) := boolT_array (boolT_set 0) Tryz.underlying79 (by kernel_rfl) (by kernel_rfl)
theorem cells_set : Tryz.prog.cellsOf 78 = 26 := by kernel_rfl
theorem cells_mem : Tryz.prog.cellsOf 79 = 676 := by kernel_rfl
theorem cells_sts : Tryz.prog.cellsOf 81 = 702 := by kernel_rfl
theorem boolT_sts : BoolT 4 81 702 := by
 intro bs hl
 have e0 : ((bV bs).drop 0).take (Tryz.prog.cellsOf 78) = bV (bs.take 26) := by rw [cells_set]; simp [bV, List.map_take]
 have e1 : ((bV bs).drop 26).take (Tryz.prog.cellsOf 79) = bV (bs.drop 26) := by
  rw [cells_mem, List.take_of_length_le (by rw [List.length_drop, bV_len, hl]; decide)]
  simp [bV, List.map_drop]
 have g0 := boolT_set 1 (bs.take 26) (by rw [List.length_take, hl]; rfl)
 have g1 := boolT_mem (bs.drop 26) (by rw [List.length_drop, hl])
 have hlen : (bV bs).length = Tryz.prog.cellsOf 81 := by rw [bV_len, hl, cells_sts]
 unfold Program.keyLits
 rw [Tryz.underlying81]
 simp only [hlen, true_and]
 rw [if_pos (by simp)]
 simp only [List.mapM_cons, List.mapM_nil, e0, e1, g0, g1, Option.bind_eq_bind, Option.bind_some, Option.pure_def, Option.map_some, Option.some.injEq, List.flatten_cons, List.flatten_nil, List.append_nil]
 rw [← List.map_append, List.take_append_drop]
theorem map_lit : ∀ a b : List Bool, a.map Lit.bool = b.map Lit.bool → a = b
 | [], [], _ => rfl
 | [], _ :: _, h => by simp at h
 | _ :: _, [], h => by simp at h
 | x :: a, y :: b, h => by
  simp only [List.map_cons, List.cons.injEq, Lit.bool.injEq] at h
  rw [h.1, map_lit a b h.2]
set_option maxRecDepth 100000 in
theorem run_eqS {x y : Sx} (hx : SxOk x) (hy : SxOk y) (w : World) : (Op.equalIn 10000 81 (.agg (sxC x).toArray) (.agg (sxC y).toArray)).run Tryz.prog w = .ok (decide (x = y)) w := by
 have hk : Tryz.prog.keyTypeAt 4 81 = true := by kernel_rfl
 have hf : ∀ z : Sx, SxOk z → (Value.agg (sxC z).toArray).formed Tryz.prog 81 = true := by
  intro z hz
  have : (sxC z).toArray.size = Tryz.prog.cellsOf 81 := by rw [cells_sts, sxC_bits, List.size_toArray, bV_len, hz.len]
  simp [Value.formed, Tryz.underlying81, this]
 have hc : ∀ z : Sx, SxOk z → Tryz.prog.keyLits 4 81 (Value.agg (sxC z).toArray).cells.toList = some ((bitsS z).map Lit.bool) := by
  intro z hz
  show Tryz.prog.keyLits 4 81 (sxC z).toArray.toList = _
  rw [List.toList_toArray, sxC_bits]
  exact boolT_sts _ hz.len
 obtain ⟨r, h1, h2⟩ := run_equalIn_deep 9996 4 81 hk w 4 4 _ _ _ _ (hf x hx) (hf y hy) (hc x hx) (hc y hy)
 rw [h1]
 congr 1
 rw [Bool.eq_iff_iff, h2, decide_eq_true_eq]
 constructor
 ·intro h
  refine bits_inj hx hy ?_
  exact map_lit _ _ h
 ·intro h; rw [h]
end Go.Proofs.YtmolmbeeoecnfaaGreatDoor
