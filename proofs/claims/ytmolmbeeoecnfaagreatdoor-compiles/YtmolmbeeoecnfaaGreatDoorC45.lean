/- Own work: PgWZ, Ph1, TP1, CoR, CoR2, CoR3, CoR4, TD1, TR1, TR2, TR3, TD2, TD3, TR4, TD4, TR5, TR6, TD5, TD6, CoR5, CoR6, CoS, TE1, TP2, CoU. -/
import Derived.Test.YtmolmbeeoecnfaaGreatDoorC44
import Derived.Test.YtmolmbeeoecnfaaGreatDoorC35
import Derived.Test.YtmolmbeeoecnfaaGreatDoorC42
import Derived.Test.YtmolmbeeoecnfaaGreatDoorC03
import Derived.Lib.ItoaNum
import Derived.Test.YtmolmbeeoecnfaaGreatDoorC39
import Derived.Test.YtmolmbeeoecnfaaGreatDoorC04
import Derived.Test.YtmolmbeeoecnfaaGreatDoorC31
import Derived.Test.YtmolmbeeoecnfaaGreatDoorC01
import Derived.Test.YtmolmbeeoecnfaaGreatDoorC17
import Derived.Test.YtmolmbeeoecnfaaGreatDoorC29
/- Own work: walks of the document's game: Step. -/
namespace Go.Proofs.YtmolmbeeoecnfaaGreatDoor
open Go.RowKit Go.BigFrame
set_option linter.unusedVariables false
set_option linter.unusedSimpArgs false

structure FoI (st : List StP) (th : List TrH) (p : Py) (ns : List Nat) : Prop where
 i : PyI st p
 m : p.mm.length = 26
 s : ∀ n ∈ ns, ∀ t, th[n]? = some t → ScOn st p.act t.q
 w : ns.Pairwise (Apt st th)
theorem tkF_ml {st : List StP} (q : TrQ) (p : Py) : (tkF st q p).mm.length = p.mm.length := by
 have e : (tkF st q p).mm = (rmF st (lefB st p.act q) st.length p).mm := by
  unfold tkF
  exact enF_mm st _ 26 _ _ _ (lvF_mm st _ _ _)
 rw [e, rmF_ml]
theorem foI_step {st : List StP} {th : List TrH} (ht : Tr st) {p : Py} {n : Nat} {ns : List Nat} {t : TrH} (hx : th[n]? = some t) (h : FoI st th p (n :: ns)) : FoI st th (tkF st t.q p) ns := by
 obtain ⟨hp, hm, hs, hpw⟩ := h
 rw [List.pairwise_cons] at hpw
 obtain ⟨h1, h2⟩ := tkF_lg ht t.q p hp.l hp.g (hs n (by simp) t hx)
 refine ⟨⟨by rw [tkF_alen]; exact hp.l, h1, tkF_hi t.q p hp.h, tkF_mem t.q p hp.l hp.g hp.m⟩, by rw [tkF_ml]; exact hm, ?_, hpw.2⟩
 intro m hm u hu
 have hold := hs m (by simp [hm]) u hu
 rcases hpw.1 m hm t u hx hu with hc | ⟨da, db, q1, q2, q3⟩
 ·exact Or.inl hc
 ·rcases hold with hc | ⟨d, d1, d2, d3, d4⟩
  ·exact Or.inl hc
  ·refine Or.inr ⟨d, d1, d2, d3, ?_⟩
   have : d = db := by omega
   subst this
   rw [h2 da q1 d q3]; exact d4
theorem foI_tkn {st : List StP} (th : List TrH) (ht : Tr st) {p : Py} (ih : PyI st p) (hm : p.mm.length = 26) (ev : UInt8) : FoI st th p (tkn st th p.act ev) := by
 have hin : ∀ n ∈ tkn st th p.act ev, OwnOn st th p.act n := by
  intro n hn
  rcases (wcF_in st th p.act (clL st th p.act ev) ([], noSet)).1 n hn with h3 | h3
  ·simp at h3
  ·exact clK_on ht ih.g _ _ (Nat.le_refl _) n h3
 have hpw : (tkn st th p.act ev).Pairwise (Dis st th p.act) := wcF_dis st th p.act _ ([], noSet) (fun a ha => by simp at ha) List.Pairwise.nil
 refine ⟨ih, hm, ?_, pairwise_impl _ hpw (fun a ha b hb hd => apt_of ht ih.l ih.g (hin a ha) (hin b hb) hd)⟩
 intro n hn t hx
 obtain ⟨t', e1, e2, e3⟩ := hin n hn
 rw [hx] at e1
 obtain rfl : t = t' := by injection e1
 exact scOn_of ht ih.g e2 e3

def ThM (st : List StP) (th : List TrH) : Prop := ∀ (k : Nat) (h : TrH), th[k]? = some h → (h.q.mark = 0 ∨ h.q.mark = 42 ∨ h.q.mark = 126) ∧ (h.q.mark = 42 → ∃ x, st[h.q.ts.toNat]? = some x ∧ x.wh = true) ∧ h.q.acts.size ≤ 160

set_option maxRecDepth 100000 in
set_option maxHeartbeats 4000000 in
theorem dstep_any (w : World) (M : GM) (st : List StP) (th : List TrH) (p : Py) (ev : UInt8) (hD : PlD M st) (hMk : MkR M st) (hTR : TrsR M.c st th) (hTM : ThM st th) (hp : GmP w M st p) (hI : PyI st p) (hml : p.mm.length = 26) (hb : p.out.length + 160000000000 ≤ 70000000000000) :
  Calls Tryz.prog 18 #[.pointer (some ⟨M.gb, 0, none⟩), .int .u8 ev.toNat] w fun e w' => e = .returned (.tuple #[]) ∧ (spF st th ev p).out.length ≤ p.out.length + 139586564000 ∧ GmP w' M st (spF st th ev p) ∧ Fr (OwnG M) w w' := by
 have HD : Hid _ := hD
 have HMK : Hid _ := hMk
 have HT : Hid _ := hTR
 have HTM : Hid _ := hTM
 have HB : Hid (p.out.length + 160000000000 ≤ 70000000000000) := hb
 have HL : Hid (M.c.sts.length = st.length) := hD.k.len
 have hlen := hD.t.wf.len
 have hl4 := hp.1.ct.l4
 have HN : Hid ((∀ n ∈ tkn st th p.act ev, n < th.length) ∧ (tkn st th p.act ev).length ≤ st.length) := tkn_ok st th p.act ev
 have HSP : Hid (spF st th ev p = (tkn st th p.act ev).foldl (tk1 st th) p) := rfl
 have HFI : Hid (FoI st th p (tkn st th p.act ev)) := foI_tkn th hD.t hI hml ev
 have HTA : Hid _ := dtaken_any w M st th p.act (meOf st p.mm) ⟨p.out.toArray⟩ hI.l hI.h hp.1 hTR hD.k hD.t hI.g ev
 have HP : Hid (GmP w M st p) := hp
 have hltw : M.gb < w.heap.size ∧ M.ob < w.heap.size ∧ M.mb < w.heap.size := ⟨Blk.lt hp.1.blk, Blk.lt hp.1.bo, Blk.lt hp.1.bm⟩
 clear hD hMk hTR hTM hp hI hml hb
 go_enter Tryz.func18, Tryz.ntmps18
 go_wp2_with fail
 refine Calls.mono HTA.out ?_
 rintro e w1 ⟨v2, rfl, hf1, hr2, ho2⟩
 clear HTA
 obtain ⟨hN1, hN2⟩ := HN.out
 generalize tkn st th p.act ev = ns at *
 have HP2 : Hid (GmP w1 M st p) := HP.out.fr0 hf1
 have HNO : Hid (∀ k, v2.ownBlock = some k → ¬ OwnG M k) := by
  intro k hk ho
  have h1 := ho2 k hk
  rcases ho with h | h | h
  ·omega
  ·omega
  ·omega
 have HN1 : Hid (∀ n ∈ ns, n < th.length) := hN1
 have HR2 : Hid (w1.ownsRow 0 3 1 v2 ns.length (inV ns)) := hr2
 obtain ⟨va, vc, hv⟩ := row_len hr2
 have HV : Hid (v2 = .slice va ns.length vc) := hv
 have hnl : ns.length ≤ 26 := by omega
 have hfw : Fr (OwnG M) w w1 := hf1.mono (fun _ _ h => h.elim)
 rw [hv]
 clear hr2 hN1 hN2 hf1 ho2 hv HN
 go_wp2_with fail
 go_loopg [5] 27 (fun g vi wr => ∃ (k : Nat) (q : Py), k ≤ ns.length ∧ vi = .int .i64 k ∧ Hid (GmP wr M st q) ∧ Fr (OwnG M) w wr ∧ wr.ownsRow 0 3 1 v2 ns.length (inV ns) ∧ Hid (FoI st th q (ns.drop k)) ∧ Hid (spF st th ev p = (ns.drop k).foldl (tk1 st th) q) ∧ Hid (q.out.length ≤ p.out.length + k * 5368714000) ∧ ns.length - k ≤ g)
 case atStart => exact ⟨0, p, Nat.zero_le _, rfl, HP2, hfw, HR2.out, HFI, HSP, by show _ ≤ _; omega, by omega⟩
 case round =>
  obtain ⟨k, q, hk, rfl, HPQ, hfq, hrq, HFQ, HF, HLQ, hg⟩ := hrel
  by_cases hlt : (k : Int) < ns.length
  ·have hlt' : k < ns.length := by omega
   obtain ⟨gn, cn, hvn, hcn⟩ := row_form hrq (by omega)
   have hvv := HV.out.symm.trans hvn
   injection hvv with q1 q2 q3
   subst q1
   subst q3
   clear q2
   have HRQ : Hid (wr.ownsRow 0 3 1 v2 ns.length (inV ns)) := hrq
   rw [hvn] at hrq
   obtain ⟨n, hn⟩ : ∃ n, ns[k]? = some n := ⟨_, List.getElem?_eq_getElem hlt'⟩
   have n0 := (row_cell hrq k _ (inV_get hn)).1
   have hnl2 : n < th.length := HN1.out n (List.mem_of_getElem? hn)
   have hdrop : ns.drop k = n :: ns.drop (k + 1) := by
    rw [List.drop_eq_getElem_cons hlt']; congr 1; rw [List.getElem?_eq_getElem hlt'] at hn; simpa using hn
   have hnt : n < M.c.trs.length := by rw [HT.out.len]; exact hnl2
   obtain ⟨t, hx⟩ : ∃ t, M.c.trs[n]? = some t := ⟨_, List.getElem?_eq_getElem hnt⟩
   obtain ⟨h, hh⟩ : ∃ h, th[n]? = some h := ⟨_, List.getElem?_eq_getElem hnl2⟩
   have hq := HT.out.each n t h hx hh
   obtain ⟨-, c1⟩ := HPQ.out.1.cp
   have hr4 := HPQ.out.1.ct.r4
   obtain ⟨g4, cc4, hv4, hcc4⟩ := row_form hr4 (by omega)
   rw [hv4] at c1 hr4
   obtain ⟨t0, t1, t2, t3, t4, t5⟩ := tr6F hr4 hx
   have HTC : Hid (t.cells.toArray = #[.int .i64 t.from_, .int .u8 t.event.toNat, .string t.conds, .int .u8 t.target.toNat, .string t.mark, .string t.acts]) := rfl
   have HF2 : Hid (spF st th ev p = (ns.drop (k + 1)).foldl (tk1 st th) (tkF st h.q q)) := by
    show _ = _; rw [HF.out, hdrop, List.foldl_cons, tk1, hh]
   have hfo := HFQ.out
   rw [hdrop] at hfo
   have HFQ2 : Hid (FoI st th (tkF st h.q q) (ns.drop (k + 1))) := foI_step HD.out.t hh hfo
   have hsc := hfo.s n (by simp) h hh
   obtain ⟨m1, m2, m3⟩ := HTM.out n h hh
   have hmul : k * 5368714000 ≤ 25 * 5368714000 := Nat.mul_le_mul_right _ (by omega)
   have hmul2 : (k + 1) * 5368714000 = k * 5368714000 + 5368714000 := Nat.succ_mul _ _
   have HTK : Hid (∀ w', Fr (fun _ => False) wr w' → Calls Tryz.prog 37 #[.pointer (some ⟨M.gb, 0, none⟩), .agg #[.int .i64 t.from_, .int .u8 t.event.toNat, .string t.conds, .int .u8 t.target.toNat, .string t.mark, .string t.acts]] w' fun e w'' => e = .returned (.tuple #[]) ∧ (tkF st h.q q).out.length ≤ q.out.length + 5368714000 ∧ GmP w'' M st (tkF st h.q q) ∧ Fr (OwnG M) w' w'') := fun w' f => by
    have h1 := dtake_any w' M st q t h.q HD.out HMK.out (HPQ.out.fr0 f) hfo.i hfo.m hq hsc m1 m2 m3 (by have := HLQ.out; have := HB.out; omega)
    rwa [HTC.out] at h1
   have HL2 : Hid (∀ n : Nat, n ≤ q.out.length + 5368714000 → n ≤ p.out.length + (k + 1) * 5368714000) := by intro n hn; have := HLQ.out; omega
   clear hrq hn hdrop hx hh hq hv4 hr4 hfo hsc m1 m2 m3 HF hvn hmul hmul2
   go_wp2_with fail
   go_region_with (go_at_call 37; refine Calls.mono (HTK.out _ ?_) ?_; (repeat (first | exact Fr.refl _ _ | assumption | refine Fr.drewNr ?_ _ | refine Fr.drewr ?_ | refine Fr.allocr ?_ _ | refine Fr.setCellr ?_ _ _ (by first | exact Or.inl rfl | (right; simp; done) | (right; simp; omega)))); rintro e w4 ⟨rfl, hl4', hp4, hf4⟩; have hf04 : Fr (OwnG M) wr w4 := Fr.thenr (by (repeat (first | exact Fr.refl _ _ | assumption | refine Fr.drewNr ?_ _ | refine Fr.drewr ?_ | refine Fr.allocr ?_ _ | refine Fr.setCellr ?_ _ _ (by first | exact Or.inl rfl | (right; simp; done) | (right; simp; omega))))) hf4 (fun _ _ h => h))
   all_goals
    have HL4 : Hid ((tkF st h.q q).out.length ≤ p.out.length + (k + 1) * 5368714000) := HL2.out _ hl4'
    have hr4 := row_fr HRQ.out hf04 HNO.out
    have HP4 : Hid (GmP w4 M st (tkF st h.q q)) := hp4
    have hf4' := hfq.thenr hf04 (fun _ _ h => h)
    clear HL2 HTK hl4' hp4 t0 t1 t2 t3 t4 t5 n0 c1
    go_wp2_with fail
    go_roundg (ns.length - (k + 1))
    case measure => omega
    case rel => exact ⟨k + 1, _, by omega, by go_num, HP4, hf4', hr4, HFQ2, HF2, HL4, Nat.le_refl _⟩
  ·have hkn : k = ns.length := by omega
   have HF2 : Hid (spF st th ev p = q) := by show _ = _; rw [HF.out, hkn]; simp
   have HL2 : Hid (q.out.length ≤ p.out.length + 139586564000) := by
    have h1 := HLQ.out
    have hmul : k * 5368714000 ≤ 26 * 5368714000 := Nat.mul_le_mul_right _ (by omega)
    show _ ≤ _
    omega
   clear HF HLQ hkn
   go_wp2_with fail
   go_end0
   rw [HF2.out]
   exact ⟨rfl, HL2.out, HPQ.out, hfq⟩

theorem un_pld {s : ByteArray} (h : (unE s).1 = 0) (M : GM) (hs : M.c.sts = (rd s).st) : PlD M (unSt s) := by
 refine ⟨by rw [hs]; exact un_lk h, (un_lg h ⟨#[]⟩).1, (un_names h).2, (plan_ok s h).sz, fun k x hx => (un_marks h k x hx).2.2, ?_⟩
 obtain ⟨h160, hK, hw, hv, hm⟩ := unE_ok h
 have hok : (rcR s).1 = true := by
  simp only [rcK, Bool.and_eq_true] at hK
  exact hK.1
 have hM := (rd_eq s).1 hok
 intro k x y hx hy
 rw [hs, hM.st, List.getElem?_map] at hx
 obtain ⟨z, hz, hsm⟩ := (un_sm h).2 k y hy
 rw [hz] at hx
 simp only [Option.map_some, Option.some.injEq] at hx
 subst hx
 exact ⟨hsm.en.symm, hsm.le.symm⟩
theorem un_mkr {s : ByteArray} (h : (unE s).1 = 0) (M : GM) (ht : M.c.trs = (rd s).tr) : MkR M (unSt s) := by
 intro k x hx
 rw [ht]
 exact ⟨(un_marks h k x hx).1, (un_marks h k x hx).2.1⟩
theorem un_thm {s : ByteArray} (h : (unE s).1 = 0) : ThM (unSt s) (th0 s) := by
 intro k t ht
 have hp := plan_ok s h
 have hMk : MkS (rcR s).2 := MkS.rsF _ _ _ _ (fun t ht => by simp [R0] at ht)
 unfold th0 unTr at ht
 rw [List.map_map, List.getElem?_map] at ht
 cases hq : (rcR s).2.tr[k]? with
 | none => rw [hq] at ht; cases ht
 | some q0 =>
  rw [hq] at ht
  simp only [Option.map_some, Option.some.injEq] at ht
  subst ht
  have hmem : resQ (rcR s).2.st q0 ∈ unTr s := List.mem_map.2 ⟨q0, List.mem_of_getElem? hq, rfl⟩
  obtain ⟨p1, p2, p3, p4⟩ := hp.trs _ hmem
  refine ⟨hMk q0 (List.mem_of_getElem? hq), fun h42 => ?_, p4⟩
  have hlt : (resQ (rcR s).2.st q0).ts.toNat < (unSt s).length := by
   obtain ⟨a1, a2, a3⟩ := p1
   omega
  obtain ⟨x, hx⟩ : ∃ x, (unSt s)[(resQ (rcR s).2.st q0).ts.toNat]? = some x := ⟨_, List.getElem?_eq_getElem hlt⟩
  obtain ⟨y, hy, -⟩ := (un_sm h).2 _ x hx
  obtain ⟨m1, -⟩ := mark_at _ _ _ x y hx hy
  refine ⟨x, hx, ?_⟩
  rw [m1, Bool.or_eq_true]
  right
  rw [List.any_eq_true]
  refine ⟨resQ (rcR s).2.st q0, hmem, ?_⟩
  simp only [Bool.and_eq_true, beq_iff_eq]
  exact ⟨h42, trivial⟩
end Go.Proofs.YtmolmbeeoecnfaaGreatDoor

/- Own work: the plain mathematics of tables: numbers, cells, rows, events. -/
namespace Go.Proofs.YtmolmbeeoecnfaaGreatDoor
set_option linter.unusedVariables false
set_option linter.unusedSimpArgs false


structure Cl where
 dst : Nat
 acts : ByteArray

structure Rw where
 at_ : Nat
 same : Int
 cells : List Cl
 text : ByteArray

end Go.Proofs.YtmolmbeeoecnfaaGreatDoor

/- Own work: plain: a table's text, as the compiler writes it, is read back. Names nothing of the program. -/
namespace Go.Proofs.YtmolmbeeoecnfaaGreatDoor
set_option linter.unusedVariables false
set_option linter.unusedSimpArgs false

structure At (s : ByteArray) (i : Nat) (l : List UInt8) : Prop where
 b : ∀ j c, l[j]? = some c → byte s (i + j) = c
 e : i + l.length ≤ s.size
def clT (c : Cl) : List UInt8 := (Lib.decDigits c.dst ++ [58]) ++ c.acts.data.toList
def txR : Bool → List Cl → List UInt8
 | _, [] => []
 | first, c :: r => (if first = true then [] else [44]) ++ clT c ++ txR false r
end Go.Proofs.YtmolmbeeoecnfaaGreatDoor

/- Own work: plain: a table's rows and its whole text, as the compiler writes them, are read back. Names nothing of the program. -/
namespace Go.Proofs.YtmolmbeeoecnfaaGreatDoor
set_option linter.unusedVariables false
set_option linter.unusedSimpArgs false

end Go.Proofs.YtmolmbeeoecnfaaGreatDoor

/- Own work: plain: what the compiler's rows say. -/
namespace Go.Proofs.YtmolmbeeoecnfaaGreatDoor
open Go.RowKit Go.BigFrame
set_option linter.unusedVariables false
set_option linter.unusedSimpArgs false

def txC (C : List Cl) : ByteArray := ⟨(txR true C).toArray⟩
section
variable (st : List StP) (th : List TrH) (es : ByteArray)
end

def NdS (l : List Sx) : Prop := ∀ (i j : Nat) (x : Sx), l[i]? = some x → l[j]? = some x → i = j
section
variable {st : List StP} {th : List TrH} {es : ByteArray}
def LdS (st : List StP) (th : List TrH) (es : ByteArray) (l : List Sx) (x : Sx) (C : List Cl) : Prop := ∀ (k : Nat) (c : Cl), C[k]? = some c → l[c.dst]? = some (sxP (spS st th (byte es k) x)) ∧ c.acts = ⟨(spS st th (byte es k) x).out.toArray⟩
theorem pre_at {l m : List Sx} (h : l <+: m) {i : Nat} {x : Sx} (hi : l[i]? = some x) : m[i]? = some x := by
 rw [pre_get h (List.getElem?_eq_some_iff.1 hi).1]; exact hi
structure CoI (st : List StP) (th : List TrH) (es : ByteArray) (l : List Sx) (Cs : List (List Cl)) : Prop where
 nd : NdS l
 le : Cs.length ≤ l.length
 ce : ∀ (i : Nat) (C : List Cl), Cs[i]? = some C → ∃ x : Sx, l[i]? = some x ∧ C.length = es.size ∧ LdS st th es l x C
end


theorem fiR_at {rows : List ByteArray} {x : ByteArray} {i : Nat} (h : rows[i]? = some x) : fiR rows x ≤ i ∧ ∃ y, rows[fiR rows x]? = some y ∧ y.toList = x.toList := by
 have hil := (List.getElem?_eq_some_iff.1 h).1
 unfold fiR
 rcases firstB_spec (eqR rows x) rows.length with ⟨-, h2⟩ | ⟨k, h1, h2, h3, h4⟩
 ·have := h2 i hil
  simp [eqR, h] at this
 ·rw [h1]
  simp only [Option.getD_some]
  refine ⟨?_, ?_⟩
  ·by_cases hk : k ≤ i
   ·exact hk
   ·have := h4 i (by omega)
    simp [eqR, h] at this
  ·unfold eqR at h3
   split at h3
   ·rename_i y hy; exact ⟨y, hy, by simpa using h3⟩
   ·cases h3













def DgA (a : ByteArray) : Prop := ∀ c ∈ bls a, isD c = true
def DdS (st : List StP) : Prop := ∀ x ∈ st, DgA x.enter ∧ DgA x.leave

section
variable {st : List StP} (hd : DdS st)
include hd
end


structure CoT (st : List StP) (th : List TrH) (lim : Int) (l : List Sx) (Cs : List (List Cl)) : Prop where
 ci : CoI st th (evS th) l Cs
 len : Cs.length = l.length
 st0 : l[0]? = some (sxP (begP st))
 lm : (l.length : Int) ≤ lim
section
variable {st : List StP} {th : List TrH} {lim : Int} {l : List Sx} {Cs : List (List Cl)} (hT : CoT st th lim l Cs) (hd : DdS st) (hta : ∀ t ∈ th, DgA t.q.acts) (hl : lim ≤ 99)
include hT
include hd hta hl
end


def sW : List StP → Nat
 | [] => 0
 | x :: l => x.enter.size + x.leave.size + sW l
def tW : List TrQ → Nat
 | [] => 0
 | t :: l => 4 + t.acts.size + tW l


def one (ev : UInt8) (v : Nat) : List UInt8 → Nat
 | [] => 0
 | e :: l => (if ev = e then v else 0) + one ev v l
section
variable {st : List StP} {th : List TrH} {lim : Int} {l : List Sx} {Cs : List (List Cl)} (hT : CoT st th lim l Cs) (hl : lim ≤ 99) (ht : Tr st) (hk : ∀ t ∈ th, TrOk st t.q) (hw : sW st + tW (th.map TrH.q) ≤ 160)
include hT hl ht hk hw
end
end Go.Proofs.YtmolmbeeoecnfaaGreatDoor

/- Own work: the program's answer of a table is the document's: plainly. -/
namespace Go.Proofs.YtmolmbeeoecnfaaGreatDoor
set_option linter.unusedVariables false
set_option linter.unusedSimpArgs false

end Go.Proofs.YtmolmbeeoecnfaaGreatDoor

/- Own work: the plain mathematics of playing a table. -/
namespace Go.Proofs.YtmolmbeeoecnfaaGreatDoor
set_option linter.unusedVariables false
set_option linter.unusedSimpArgs false

section
variable {R : List Rw} {wd m : Nat}
end
end Go.Proofs.YtmolmbeeoecnfaaGreatDoor

/- Own work: plain: what the compiled table does is what the chart does. -/
namespace Go.Proofs.YtmolmbeeoecnfaaGreatDoor
open Go.RowKit Go.BigFrame
set_option linter.unusedVariables false
set_option linter.unusedSimpArgs false



section
variable {st : List StP} {th : List TrH} {lim : Int} {l : List Sx} {Cs : List (List Cl)} (hT : CoT st th lim l Cs) (hd : DdS st) (hta : ∀ t ∈ th, DgA t.q.acts) (hl : lim ≤ 99)
include hT hd hta hl
end
end Go.Proofs.YtmolmbeeoecnfaaGreatDoor
