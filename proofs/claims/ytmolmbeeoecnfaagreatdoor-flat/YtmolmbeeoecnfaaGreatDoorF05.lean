/- Own work: PlB. -/
import Derived.Test.YtmolmbeeoecnfaaGreatDoorF04
/- Own work: the walk of the program's plan: resolve. -/
namespace Go.Proofs.YtmolmbeeoecnfaaGreatDoor
open Go.RowKit Go.BigFrame
set_option linter.unusedVariables false
set_option linter.unusedSimpArgs false

def resC (st : List StP) (c : CdP) : CdP := { c with state := idxP st c.name }
def resQ (st : List StP) (t : TrQ) : TrQ := { t with conds := t.conds.map (resC st), ts := idxP st t.tn }
def resH (st : List StP) (t : TrH) : TrH := ⟨resQ st t.q, t.cv⟩
def refsQ (t : TrQ) : List (UInt8 × Nat) := t.conds.map (fun c => (c.name, c.place)) ++ [(t.tn, t.tp)]
def badR (st : List StP) (x : UInt8 × Nat) : Bool := decide (idxP st x.1 < 0)
def rsv (st : List StP) (tr : List TrQ) : Int := match (tr.flatMap refsQ).find? (badR st) with | some x => x.2 | none => -1

def goodTo (st : List StP) (th : List TrH) (k : Nat) : Prop := ∀ i t, i < k → th[i]? = some t → ∀ x ∈ refsQ t.q, badR st x = false
def goodC (st : List StP) (cs : List CdP) (j : Nat) : Prop := ∀ i c, i < j → cs[i]? = some c → badR st (c.name, c.place) = false

theorem find_at {α : Type} (p : α → Bool) (a : List α) (x : α) (b : List α) (ha : ∀ y ∈ a, p y = false) (hx : p x = true) : (a ++ x :: b).find? p = some x := by
 rw [List.find?_append, List.find?_eq_none.2 (fun y hy => by simp [ha y hy])]
 simp [hx]

theorem good_take {st : List StP} {th : List TrH} {k : Nat} (h : goodTo st th k) : ∀ y ∈ ((th.take k).map TrH.q).flatMap refsQ, badR st y = false := by
 intro y hy
 obtain ⟨q, hq, hyq⟩ := List.mem_flatMap.1 hy
 obtain ⟨t, ht, rfl⟩ := List.mem_map.1 hq
 obtain ⟨i, hi⟩ := List.mem_iff_getElem?.1 ht
 rw [List.getElem?_take] at hi
 split at hi
 ·exact h i t ‹_› hi y hyq
 ·cases hi
theorem good_takeC {st : List StP} {cs : List CdP} {j : Nat} (h : goodC st cs j) : ∀ y ∈ (cs.take j).map (fun c => (c.name, c.place)), badR st y = false := by
 intro y hy
 obtain ⟨c, hc, rfl⟩ := List.mem_map.1 hy
 obtain ⟨i, hi⟩ := List.mem_iff_getElem?.1 hc
 rw [List.getElem?_take] at hi
 split at hi
 ·exact h i c ‹_› hi
 ·cases hi

theorem split_at {α : Type} {l : List α} {k : Nat} {x : α} (h : l[k]? = some x) : l = l.take k ++ x :: l.drop (k + 1) := by
 obtain ⟨hk, rfl⟩ := List.getElem?_eq_some_iff.1 h
 rw [List.getElem_cons_drop, List.take_append_drop]

theorem rsv_none {st : List StP} {th : List TrH} (h : goodTo st th th.length) : rsv st (th.map TrH.q) = -1 := by
 have h1 := good_take h
 rw [List.take_length] at h1
 rw [rsv, List.find?_eq_none.2 (fun y hy => by simp [h1 y hy])]
theorem rsv_cond {st : List StP} {th : List TrH} {k j : Nat} {t : TrH} {c : CdP} (h : goodTo st th k) (hk : th[k]? = some t) (hc : goodC st t.q.conds j) (hj : t.q.conds[j]? = some c) (hb : badR st (c.name, c.place) = true) : rsv st (th.map TrH.q) = c.place := by
 have e1 : (th.map TrH.q).flatMap refsQ = (((th.take k).map TrH.q).flatMap refsQ ++ (t.q.conds.take j).map (fun c => (c.name, c.place))) ++ (c.name, c.place) :: ((t.q.conds.drop (j + 1)).map (fun c => (c.name, c.place)) ++ [(t.q.tn, t.q.tp)] ++ ((th.drop (k + 1)).map TrH.q).flatMap refsQ) := by
  have e2 : refsQ t.q = (t.q.conds.take j).map (fun c => (c.name, c.place)) ++ (c.name, c.place) :: ((t.q.conds.drop (j + 1)).map (fun c => (c.name, c.place)) ++ [(t.q.tn, t.q.tp)]) := by
   show t.q.conds.map _ ++ _ = _
   conv => lhs; rw [split_at hj]
   simp
  conv => lhs; rw [split_at hk]
  simp only [List.map_append, List.map_cons, List.flatMap_append, List.flatMap_cons, e2]
  simp
 rw [rsv, e1, find_at (badR st) _ _ _ (fun y hy => by rcases List.mem_append.1 hy with hy | hy; exact good_take h y hy; exact good_takeC hc y hy) hb]
theorem rsv_target {st : List StP} {th : List TrH} {k : Nat} {t : TrH} (h : goodTo st th k) (hk : th[k]? = some t) (hc : goodC st t.q.conds t.q.conds.length) (hb : badR st (t.q.tn, t.q.tp) = true) : rsv st (th.map TrH.q) = t.q.tp := by
 have e1 : (th.map TrH.q).flatMap refsQ = (((th.take k).map TrH.q).flatMap refsQ ++ t.q.conds.map (fun c => (c.name, c.place))) ++ (t.q.tn, t.q.tp) :: (((th.drop (k + 1)).map TrH.q).flatMap refsQ) := by
  conv => lhs; rw [split_at hk]
  simp only [List.map_append, List.map_cons, List.flatMap_append, List.flatMap_cons, refsQ]
  simp
 have hc' := good_takeC hc
 rw [List.take_length] at hc'
 rw [rsv, e1, find_at (badR st) _ _ _ (fun y hy => by rcases List.mem_append.1 hy with hy | hy; exact good_take h y hy; exact hc' y hy) hb]
theorem good_step {st : List StP} {th : List TrH} {k : Nat} {t : TrH} (h : goodTo st th k) (hk : th[k]? = some t) (hc : goodC st t.q.conds t.q.conds.length) (hb : badR st (t.q.tn, t.q.tp) = false) : goodTo st th (k + 1) := by
 intro i u hi hu x hx
 by_cases e : i = k
 ·subst e
  rw [hk] at hu
  injection hu with hu
  subst hu
  rcases List.mem_append.1 hx with hx | hx
  ·have hc' := good_takeC hc
   rw [List.take_length] at hc'
   exact hc' x hx
  ·simp only [List.mem_cons, List.not_mem_nil, or_false] at hx
   rw [hx]; exact hb
 ·exact h i u (by omega) hu x hx
theorem goodC_step {st : List StP} {cs : List CdP} {j : Nat} {c : CdP} (h : goodC st cs j) (hj : cs[j]? = some c) (hb : badR st (c.name, c.place) = false) : goodC st cs (j + 1) := by
 intro i u hi hu
 by_cases e : i = j
 ·subst e
  rw [hj] at hu
  injection hu with hu
  subst hu
  exact hb
 ·exact h i u (by omega) hu

def csTo (st : List StP) (cs : List CdP) (j : Nat) : List CdP := (cs.take j).map (resC st) ++ cs.drop j
def thTo (st : List StP) (th : List TrH) (k : Nat) : List TrH := (th.take k).map (resH st) ++ th.drop k

theorem csTo_get (st : List StP) (cs : List CdP) (j i : Nat) : (csTo st cs j)[i]? = if i < j then (cs[i]?).map (resC st) else cs[i]? := by
 unfold csTo
 by_cases h : i < j
 ·rw [if_pos h]
  by_cases h2 : i < cs.length
  ·rw [List.getElem?_append_left (by simp; omega), List.getElem?_map, List.getElem?_take, if_pos h]
  ·rw [List.getElem?_eq_none (by simp; omega), List.getElem?_eq_none (by omega)]
   rfl
 ·rw [if_neg h]
  by_cases h2 : j ≤ cs.length
  ·rw [List.getElem?_append_right (by simp; omega), List.getElem?_drop]
   congr 1
   simp
   omega
  ·rw [List.getElem?_eq_none (by simp; omega), List.getElem?_eq_none (by omega)]
theorem thTo_get (st : List StP) (th : List TrH) (j i : Nat) : (thTo st th j)[i]? = if i < j then (th[i]?).map (resH st) else th[i]? := by
 unfold thTo
 by_cases h : i < j
 ·rw [if_pos h]
  by_cases h2 : i < th.length
  ·rw [List.getElem?_append_left (by simp; omega), List.getElem?_map, List.getElem?_take, if_pos h]
  ·rw [List.getElem?_eq_none (by simp; omega), List.getElem?_eq_none (by omega)]
   rfl
 ·rw [if_neg h]
  by_cases h2 : j ≤ th.length
  ·rw [List.getElem?_append_right (by simp; omega), List.getElem?_drop]
   congr 1
   simp
   omega
  ·rw [List.getElem?_eq_none (by simp; omega), List.getElem?_eq_none (by omega)]
theorem csTo_len (st : List StP) (cs : List CdP) (j : Nat) : (csTo st cs j).length = cs.length := by simp [csTo]; omega
theorem thTo_len (st : List StP) (th : List TrH) (j : Nat) : (thTo st th j).length = th.length := by simp [thTo]; omega
theorem csTo_step (st : List StP) (cs : List CdP) (j : Nat) (c : CdP) (h : cs[j]? = some c) : (csTo st cs j).modify j (fun c' => { c' with state := idxP st c.name }) = csTo st cs (j + 1) := by
 apply List.ext_getElem?
 intro i
 rw [List.getElem?_modify, csTo_get, csTo_get]
 by_cases e : j = i
 ·subst e
  simp [h, resC]
 ·by_cases h1 : i < j
  ·simp [e, h1, show i < j + 1 by omega]
  ·simp [e, h1, show ¬ i < j + 1 by omega]
def thAt (st : List StP) (th : List TrH) (k j : Nat) : List TrH := (thTo st th k).modify k fun x => ⟨{ x.q with conds := csTo st x.q.conds j }, x.cv⟩
theorem thAt_zero (st : List StP) (th : List TrH) (k : Nat) : thAt st th k 0 = thTo st th k := by
 apply List.ext_getElem?
 intro i
 rw [thAt, List.getElem?_modify]
 split
 ·have : ∀ x : TrH, (⟨{ x.q with conds := csTo st x.q.conds 0 }, x.cv⟩ : TrH) = x := fun x => by simp [csTo]
  cases (thTo st th k)[i]? <;> simp [this]
 ·simp
theorem thAt_get (st : List StP) (th : List TrH) (k j : Nat) (t : TrH) (h : th[k]? = some t) : (thAt st th k j)[k]? = some ⟨{ t.q with conds := csTo st t.q.conds j }, t.cv⟩ := by
 rw [thAt, List.getElem?_modify, thTo_get]
 simp [h]
theorem thAt_step (st : List StP) (th : List TrH) (k j : Nat) (t : TrH) (c : CdP) (h : th[k]? = some t) (hj : t.q.conds[j]? = some c) : (thAt st th k j).modify k (setC j (idxP st c.name)) = thAt st th k (j + 1) := by
 apply List.ext_getElem?
 intro i
 rw [List.getElem?_modify, thAt, thAt, List.getElem?_modify, List.getElem?_modify, thTo_get]
 by_cases e : k = i
 ·subst e
  simp [h, setC, csTo_step st t.q.conds j c hj]
 ·simp [e]
theorem thAt_end (st : List StP) (th : List TrH) (k : Nat) (t : TrH) (h : th[k]? = some t) : (thAt st th k t.q.conds.length).modify k (setT (idxP st t.q.tn)) = thTo st th (k + 1) := by
 apply List.ext_getElem?
 intro i
 rw [List.getElem?_modify, thAt, List.getElem?_modify, thTo_get, thTo_get]
 by_cases e : k = i
 ·subst e
  simp [h, setT, resH, resQ, csTo]
  rw [List.take_of_length_le (by simp)]
 ·by_cases h1 : i < k
  ·simp [e, h1, show i < k + 1 by omega]
  ·simp [e, h1, show ¬ i < k + 1 by omega]
theorem thTo_all (st : List StP) (th : List TrH) : thTo st th th.length = th.map (resH st) := by simp [thTo]
theorem thTo_zero (st : List StP) (th : List TrH) : thTo st th 0 = th := by simp [thTo]
theorem own_cv (b : Nat) (ws : Ws) (th' : List TrH) (h : th'.map TrH.cv = ws.th.map TrH.cv) (j : Nat) : OwnR b { ws with th := th' } j → OwnR b ws j := by
 rintro (e | e | e | ⟨t, ht, e⟩)
 ·exact Or.inl e
 ·exact Or.inr (Or.inl e)
 ·exact Or.inr (Or.inr (Or.inl e))
 ·have h1 : t.cv ∈ ws.th.map TrH.cv := by rw [← h]; exact List.mem_map_of_mem ht
  obtain ⟨u, hu, he⟩ := List.mem_map.1 h1
  exact Or.inr (Or.inr (Or.inr ⟨u, hu, by rw [he]; exact e⟩))
theorem thTo_cv (st : List StP) (th : List TrH) (k : Nat) : (thTo st th k).map TrH.cv = th.map TrH.cv := by
 simp only [thTo, List.map_append, List.map_map]
 have : TrH.cv ∘ resH st = TrH.cv := rfl
 rw [this, ← List.map_append, List.take_append_drop]
theorem thAt_cv (st : List StP) (th : List TrH) (k j : Nat) : (thAt st th k j).map TrH.cv = th.map TrH.cv := by
 rw [thAt, map_modify_same TrH.cv (fun x => ⟨{ x.q with conds := csTo st x.q.conds j }, x.cv⟩) (fun _ => rfl), thTo_cv]

theorem PlV.own_lt {w : World} {b : Nat} {st : List StP} {ws : Ws} (h : PlV w b st ws) {k : Nat} (hk : OwnR b ws k) : k < w.heap.size := by
 rcases hk with rfl | hk | hk | ⟨t, ht, hk⟩
 ·exact Blk.lt h.blk
 ·exact (h.r2.lt k hk).2
 ·exact (h.r3.lt k hk).2
 ·exact ((h.rc t ht).lt k hk).2

def RvPost (w : World) (b : Nat) (st : List StP) (ws : Ws) (e : Ending) (w' : World) : Prop :=
 e = .returned (.int .i64 (rsv st (ws.th.map TrH.q))) ∧ Fr (OwnR b ws) w w' ∧ (rsv st (ws.th.map TrH.q) = -1 → PlV w' b st { ws with th := ws.th.map (resH st) })

set_option maxRecDepth 100000 in
set_option maxHeartbeats 2000000 in
theorem resolve_any (w : World) (b : Nat) (st : List StP) (ws : Ws) (hp : PlV w b st ws) (hl : st.length ≤ 1000000) (hl3 : ws.th.length ≤ 1000000) (hlc : ∀ t ∈ ws.th, t.q.conds.length ≤ 1000000) :
  Calls Tryz.prog 27 #[.pointer (some ⟨b, 0, none⟩)] w (RvPost w b st ws) := by
 obtain ⟨-, c1, -⟩ := hp.cells
 obtain ⟨va, vc, hv⟩ := row_len hp.r3
 rw [hv] at c1
 have HV : Hid _ := hv
 have HLC : Hid (∀ t ∈ ws.th, t.q.conds.length ≤ 1000000) := hlc
 clear hv hlc
 go_enter Tryz.func27, Tryz.ntmps27
 go_wp2_with fail
 clear c1
 go_loopw [14] (fun i wr => ∃ k : Nat, k ≤ ws.th.length ∧ i = .int .i64 k ∧ PlV wr b st { ws with th := thTo st ws.th k } ∧ Fr (OwnR b ws) w wr ∧ goodTo st ws.th k) (fun i _ => ws.th.length - (intOf i).toNat)
 case atStart => exact ⟨0, Nat.zero_le _, rfl, by rw [thTo_zero]; exact hp, Fr.refl _ _, fun i t hi => by omega⟩
 case round =>
  obtain ⟨k, hk, rfl, hpk, hfr, hgood⟩ := hrel
  have HGD : Hid _ := hgood
  clear hgood
  by_cases hlt : (k : Int) < ws.th.length
  ·have hlt' : k < ws.th.length := by omega
   have hlen := thTo_len st ws.th k
   obtain ⟨g3, c3, hv3, hcc⟩ := row_form hpk.r3 (by show 0 < (thTo st ws.th k).length; omega)
   have hv3' : ws.v3 = .slice (some ⟨g3, 0, none⟩) ws.th.length c3 := by rw [← hlen]; exact hv3
   have hvv := HV.out.symm.trans hv3'
   injection hvv with q1 q2 q3
   subst q1
   subst q3
   clear q2
   obtain ⟨t, ht⟩ : ∃ t, ws.th[k]? = some t := ⟨_, List.getElem?_eq_getElem hlt'⟩
   have htk : (thTo st ws.th k)[k]? = some t := by rw [thTo_get]; simp [ht]
   obtain ⟨x0, x1, x2, x3, x4, x5, x6, x7, x8, -⟩ := hpk.tr9 hv3 htk
   have hcl := HLC.out t (List.mem_of_getElem? ht)
   obtain ⟨ca, cc, hcv⟩ := row_len (hp.rc t (List.mem_of_getElem? ht))
   rw [hcv] at x2
   have HT : Hid (ws.th[k]? = some t) := ht
   have HCV : Hid _ := hcv
   have HV3 : Hid _ := hv3'
   clear hlen hv3 hv3' ht htk hcv hcc
   go_wp2_with fail
   have hnoT : ¬ OwnR b ws wr.heap.size := fun h => by have := hp.own_lt h; have := hfr.size; omega
   have htb := Blk.new wr #[.int .i64 t.q.own, .int .u8 t.q.event.toNat, .slice ca t.q.conds.length cc, .int .u8 t.q.tn.toNat, .int .i64 t.q.tp, .int .i64 t.q.ts, .int .u8 t.q.mark.toNat, .int .i64 t.q.mp, .string t.q.acts] 121
   have hp0 : PlV (wr.alloc (.cells #[.int .i64 t.q.own, .int .u8 t.q.event.toNat, .slice ca t.q.conds.length cc, .int .u8 t.q.tn.toNat, .int .i64 t.q.tp, .int .i64 t.q.ts, .int .u8 t.q.mark.toNat, .int .i64 t.q.mp, .string t.q.acts] 121)) b st { ws with th := thAt st ws.th k 0 } := by rw [thAt_zero]; exact hpk.fr0 (Fr.alloc _ _ _)
   have hf0 := hfr.allocr (.cells #[.int .i64 t.q.own, .int .u8 t.q.event.toNat, .slice ca t.q.conds.length cc, .int .u8 t.q.tn.toNat, .int .i64 t.q.tp, .int .i64 t.q.ts, .int .u8 t.q.mark.toNat, .int .i64 t.q.mp, .string t.q.acts] 121)
   generalize wr.alloc (.cells #[.int .i64 t.q.own, .int .u8 t.q.event.toNat, .slice ca t.q.conds.length cc, .int .u8 t.q.tn.toNat, .int .i64 t.q.tp, .int .i64 t.q.ts, .int .u8 t.q.mark.toNat, .int .i64 t.q.mp, .string t.q.acts] 121) = W0 at htb hp0 hf0 ⊢
   generalize wr.heap.size = tb at htb hnoT ⊢
   clear hpk hfr x0 x1 x2 x3 x4 x5 x6 x7 x8
   go_loopw [22] (fun i w2 => ∃ j : Nat, j ≤ t.q.conds.length ∧ i = .int .i64 j ∧ PlV w2 b st { ws with th := thAt st ws.th k j } ∧ Fr (OwnR b ws) w w2 ∧ goodC st t.q.conds j ∧ Blk w2 tb #[.int .i64 t.q.own, .int .u8 t.q.event.toNat, .slice ca t.q.conds.length cc, .int .u8 t.q.tn.toNat, .int .i64 t.q.tp, .int .i64 t.q.ts, .int .u8 t.q.mark.toNat, .int .i64 t.q.mp, .string t.q.acts] 121) (fun i _ => t.q.conds.length - (intOf i).toNat)
   case atStart => exact ⟨0, Nat.zero_le _, rfl, hp0, hf0, fun i c hi => by omega, htb⟩
   case round =>
    clear hp0 hf0 htb
    obtain ⟨j, hj, rfl, hpj, hfj, hgj, htb⟩ := hrel
    have HGJ : Hid _ := hgj
    clear hgj
    have htk := thAt_get st ws.th k j t HT.out
    have hlenA : (thAt st ws.th k j).length = ws.th.length := by have := congrArg List.length (thAt_cv st ws.th k j); simpa using this
    by_cases hjl : (j : Int) < t.q.conds.length
    ·have hjl' : j < t.q.conds.length := by omega
     obtain ⟨c, hc⟩ : ∃ c, t.q.conds[j]? = some c := ⟨_, List.getElem?_eq_getElem hjl'⟩
     have hcA : (csTo st t.q.conds j)[j]? = some c := by rw [csTo_get]; simp [hc]
     obtain ⟨gc, cc2, hgc, hcc2⟩ := row_form (hp.rc t (List.mem_of_getElem? HT.out)) (by omega)
     have hvv := HCV.out.symm.trans hgc
     injection hvv with q1 q2 q3
     subst q1
     subst q3
     clear q2
     have hcvA : t.cv = .slice (some ⟨gc, 0, none⟩) (csTo st t.q.conds j).length cc := by rw [csTo_len]; exact hgc
     obtain ⟨y0, y1, y2, y3, z2⟩ := hpj.cd4 htk hcvA hcA
     have hv3A : ws.v3 = .slice (some ⟨g3, 0, none⟩) (thAt st ws.th k j).length vc := by rw [hlenA]; exact HV3.out
     have hc2A := (hpj.tr9 hv3A htk).2.2.1
     simp only at hc2A
     rw [hgc] at hc2A
     have hc1 := hpj.cells.2.1
     simp only at hc1
     rw [HV3.out] at hc1
     have hpoke := fun w5 (h : PlV w5 b st { ws with th := thAt st ws.th k j }) => h.pokeC htk hcvA hcA (idxP st c.name)
     have HPK : Hid _ := hpoke
     have HC : Hid (t.q.conds[j]? = some c) := hc
     have hbd := idxP_bd st c.name
     clear htk hcA hgc hcvA hv3A hpoke hc hlenA
     go_wp2_with fail
     refine (numberOf_any _ b st _ c.name (by exact hpj.fr0 (Fr.alloc _ _ _)) hl).mono ?_
     rintro e w5 ⟨rfl, hf5⟩
     have hcb := Blk.fr (Blk.new wr #[.int .u8 c.name.toNat, .int .i64 c.place, .int .i64 c.state, .bool c.active] 123) hf5 (fun h => h)
     have hp5 : PlV w5 b st { ws with th := thAt st ws.th k j } := (hpj.fr0 (Fr.alloc _ _ _)).fr0 hf5
     have hfw : Fr (fun _ => False) wr w5 := (Fr.alloc (fun _ => False) wr _).thenr hf5 (fun _ _ h => h)
     have hf5w := hfj.thenr hfw (fun _ _ h => h.elim)
     have htb5 := Blk.fr htb hfw (fun h => h)
     have e1 : w5.cell? ⟨wr.heap.size, 1, none⟩ = some (.int .i64 c.place) := by rw [Blk.cell hcb]; rfl
     by_cases hbad : idxP st c.name < 0
     ·have hm1 : idxP st c.name = -1 := by omega
      have HR : Hid (rsv st (ws.th.map TrH.q) = c.place) := rsv_cond HGD.out HT.out HGJ.out HC.out (by simpa [badR] using hbad)
      rw [hm1]
      clear hm1 hbad hbd
      go_wp2_with fail
      go_ret
      exact ⟨ret_i64 HR.out.symm, hf5w, fun h => by rw [HR.out] at h; omega⟩
     ·have hne : (idxP st c.name == -1) = false := by rw [beq_eq_false_iff_ne]; omega
      have q2' : w5.cell? ⟨gc, j * 4 + 2, none⟩ = some (.int .i64 c.state) := by rw [World.cell?_of_block (hfw.block gc (World.block_lt_of_cell? _ _ y2) (fun h => h))]; exact y2
      have qz : w5.frozen? ⟨gc, j * 4 + 2, none⟩ = false := by rw [World.frozen?_of_block (hfw.block gc (World.block_lt_of_cell? _ _ y2) (fun h => h))]; exact z2
      have qa : w5.cell? ⟨g3, k * 9 + 2, none⟩ = some (.slice (some ⟨gc, 0, none⟩) t.q.conds.length cc) := by rw [World.cell?_of_block (hfw.block g3 (World.block_lt_of_cell? _ _ hc2A) (fun h => h))]; exact hc2A
      have qb : w5.cell? ⟨b, 1, none⟩ = some (.slice (some ⟨g3, 0, none⟩) ws.th.length vc) := by rw [World.cell?_of_block (hfw.block b (World.block_lt_of_cell? _ _ hc1) (fun h => h))]; exact hc1
      have HBd : Hid (badR st (c.name, c.place) = false) := by show _ = _; simpa [badR] using hbad
      clear y0 y1 y2 y3 z2 hc2A hc1 hbad
      go_wp2_with fail
      obtain ⟨p1, p2⟩ := HPK.out w5 hp5
      have p1' : PlV (w5.setCell ⟨gc, j * 4 + 2, none⟩ (.int .i64 (idxP st c.name))) b st { ws with th := thAt st ws.th k (j + 1) } := by rw [← thAt_step st ws.th k j t c HT.out HC.out]; exact p1
      have hgcO : OwnR b ws gc := Or.inr (Or.inr (Or.inr ⟨t, List.mem_of_getElem? HT.out, by rw [HCV.out]; rfl⟩))
      go_roundw
      case rel => exact ⟨j + 1, by omega, by go_num, p1', hf5w.thenr p2 (fun i hi ho => own_cv b ws _ (thAt_cv st ws.th k j) i ho), goodC_step HGJ.out HC.out HBd.out, Blk.other htb5 _ _ (fun e => hnoT (by rw [e]; exact hgcO))⟩
      case measure => simp [intOf]; omega
    ·have hjeq : j = t.q.conds.length := by omega
     subst hjeq
     have hv3A : ws.v3 = .slice (some ⟨g3, 0, none⟩) (thAt st ws.th k t.q.conds.length).length vc := by rw [hlenA]; exact HV3.out
     obtain ⟨-, -, -, -, -, u5', -, -, -, uz⟩ := hpj.tr9 hv3A htk
     have hc1 := hpj.cells.2.1
     simp only at hc1 u5'
     rw [HV3.out] at hc1
     have hpoke := fun w5 (h : PlV w5 b st { ws with th := thAt st ws.th k t.q.conds.length }) => h.pokeT htk hv3A (idxP st t.q.tn)
     have HPK : Hid _ := hpoke
     have t3 : wr.cell? ⟨tb, 3, none⟩ = some (.int .u8 t.q.tn.toNat) := by rw [Blk.cell htb]; rfl
     have t4 : wr.cell? ⟨tb, 4, none⟩ = some (.int .i64 t.q.tp) := by rw [Blk.cell htb]; rfl
     have hbd := idxP_bd st t.q.tn
     clear htk hv3A hpoke hlenA
     go_wp2_with fail
     refine (numberOf_any _ b st _ t.q.tn hpj hl).mono ?_
     rintro e w5 ⟨rfl, hf5⟩
     have hp5 : PlV w5 b st { ws with th := thAt st ws.th k t.q.conds.length } := hpj.fr0 hf5
     have hf5w := hfj.thenr hf5 (fun _ _ h => h.elim)
     have htb5 := Blk.fr htb hf5 (fun h => h)
     have e4 : w5.cell? ⟨tb, 4, none⟩ = some (.int .i64 t.q.tp) := by rw [Blk.cell htb5]; rfl
     by_cases hbad : idxP st t.q.tn < 0
     ·have hm1 : idxP st t.q.tn = -1 := by omega
      have HR : Hid (rsv st (ws.th.map TrH.q) = t.q.tp) := rsv_target HGD.out HT.out HGJ.out (by simpa [badR] using hbad)
      rw [hm1]
      clear hm1 hbad hbd
      go_wp2_with fail
      go_ret
      exact ⟨ret_i64 HR.out.symm, hf5w, fun h => by rw [HR.out] at h; omega⟩
     ·have hne : (idxP st t.q.tn == -1) = false := by rw [beq_eq_false_iff_ne]; omega
      have qa : w5.cell? ⟨g3, k * 9 + 5, none⟩ = some (.int .i64 t.q.ts) := by rw [World.cell?_of_block (hf5.block g3 (World.block_lt_of_cell? _ _ u5') (fun h => h))]; exact u5'
      have qz : w5.frozen? ⟨g3, k * 9 + 5, none⟩ = false := by rw [World.frozen?_of_block (hf5.block g3 (World.block_lt_of_cell? _ _ u5') (fun h => h))]; exact uz
      have qb : w5.cell? ⟨b, 1, none⟩ = some (.slice (some ⟨g3, 0, none⟩) ws.th.length vc) := by rw [World.cell?_of_block (hf5.block b (World.block_lt_of_cell? _ _ hc1) (fun h => h))]; exact hc1
      have HBd : Hid (badR st (t.q.tn, t.q.tp) = false) := by show _ = _; simpa [badR] using hbad
      clear u5' uz hc1 hbad
      go_wp2_with fail
      obtain ⟨p1, p2⟩ := HPK.out w5 hp5
      have p1' : PlV (w5.setCell ⟨g3, k * 9 + 5, none⟩ (.int .i64 (idxP st t.q.tn))) b st { ws with th := thTo st ws.th (k + 1) } := by rw [← thAt_end st ws.th k t HT.out]; exact p1
      go_roundw
      case rel => exact ⟨k + 1, by omega, by go_num, p1', hf5w.thenr p2 (fun i hi ho => own_cv b ws _ (thAt_cv st ws.th k _) i ho), good_step HGD.out HT.out HGJ.out HBd.out⟩
      case measure => simp [intOf]; omega
  ·have hkl : k = ws.th.length := by omega
   have HI : Hid (rsv st (ws.th.map TrH.q) = -1) := rsv_none (by rw [← hkl]; exact HGD.out)
   have hpe : PlV wr b st { ws with th := ws.th.map (resH st) } := by rw [← thTo_all, ← hkl]; exact hpk
   clear hkl
   go_wp2_with fail
   go_ret
   exact ⟨ret_i64 HI.out.symm, hfr, fun _ => hpe⟩

def setRem (x : StP) : StP := { x with rem := true }
def setWh (x : StP) : StP := { x with wh := true }
def mark1 (st : List StP) (t : TrQ) : List StP := if t.mark = 0 then st else if t.mark = 42 then (st.modify t.ts.toNat setRem).modify t.ts.toNat setWh else st.modify t.ts.toNat setRem
def kdP (st : List StP) (i : Int) : Nat := match st[i.toNat]? with | some x => x.kind | none => 0
def badM (st : List StP) (t : TrQ) : Bool := !(t.mark == 0) && !(kdP st t.ts == 1)
def mrk (st : List StP) (tr : List TrQ) : Int := match tr.find? (badM st) with | some t => t.mp | none => -1
def stTo (st : List StP) (th : List TrH) (k : Nat) : List StP := ((th.take k).map TrH.q).foldl mark1 st

theorem mark1_len (st : List StP) (t : TrQ) : (mark1 st t).length = st.length := by unfold mark1; split; rfl; split <;> simp
theorem mark1_get (st : List StP) (t : TrQ) (i : Nat) : ((mark1 st t)[i]?).map StP.kind = (st[i]?).map StP.kind ∧ ((mark1 st t)[i]?).map StP.name = (st[i]?).map StP.name := by
 have key : ∀ (l : List StP) (k : Nat) (g : StP → StP), (∀ x, (g x).kind = x.kind ∧ (g x).name = x.name) → ((l.modify k g)[i]?).map StP.kind = (l[i]?).map StP.kind ∧ ((l.modify k g)[i]?).map StP.name = (l[i]?).map StP.name := by
  intro l k g hg
  rw [List.getElem?_modify]
  split
  ·cases l[i]? <;> simp [hg]
  ·simp
 unfold mark1
 split
 ·exact ⟨rfl, rfl⟩
 ·split
  ·have a := key (st.modify t.ts.toNat setRem) t.ts.toNat setWh (fun _ => ⟨rfl, rfl⟩)
   have b := key st t.ts.toNat setRem (fun _ => ⟨rfl, rfl⟩)
   exact ⟨a.1.trans b.1, a.2.trans b.2⟩
  ·exact key st t.ts.toNat setRem (fun _ => ⟨rfl, rfl⟩)
theorem fold_get (tr : List TrQ) : ∀ (st : List StP), (tr.foldl mark1 st).length = st.length ∧ ∀ i : Nat, ((tr.foldl mark1 st)[i]?).map StP.kind = (st[i]?).map StP.kind := by
 induction tr with
 | nil => intro st; exact ⟨rfl, fun _ => rfl⟩
 | cons t tr ih =>
  intro st
  have h := ih (mark1 st t)
  exact ⟨h.1.trans (mark1_len st t), fun i => (h.2 i).trans (mark1_get st t i).1⟩
theorem stTo_step (st : List StP) (th : List TrH) (k : Nat) (t : TrH) (h : th[k]? = some t) : stTo st th (k + 1) = mark1 (stTo st th k) t.q := by
 unfold stTo
 obtain ⟨hk, rfl⟩ := List.getElem?_eq_some_iff.1 h
 rw [List.take_succ_eq_append_getElem hk, List.map_append, List.foldl_append]
 rfl
theorem stTo_all (st : List StP) (th : List TrH) : stTo st th th.length = (th.map TrH.q).foldl mark1 st := by simp [stTo]
theorem stTo_len (st : List StP) (th : List TrH) (k : Nat) : (stTo st th k).length = st.length := (fold_get _ st).1

def goodM (st : List StP) (th : List TrH) (k : Nat) : Prop := ∀ i t, i < k → th[i]? = some t → badM st t.q = false
theorem mrk_none {st : List StP} {th : List TrH} (h : goodM st th th.length) : mrk st (th.map TrH.q) = -1 := by
 rw [mrk, List.find?_eq_none.2 ?_]
 intro q hq
 obtain ⟨t, ht, rfl⟩ := List.mem_map.1 hq
 obtain ⟨i, hi⟩ := List.mem_iff_getElem?.1 ht
 simp [h i t (List.getElem?_eq_some_iff.1 hi).1 hi]
theorem mrk_some {st : List StP} {th : List TrH} {k : Nat} {t : TrH} (h : goodM st th k) (hk : th[k]? = some t) (hb : badM st t.q = true) : mrk st (th.map TrH.q) = t.q.mp := by
 have e : th.map TrH.q = (th.take k).map TrH.q ++ t.q :: (th.drop (k + 1)).map TrH.q := by
  conv => lhs; rw [split_at hk]
  simp
 rw [mrk, e, find_at (badM st) _ _ _ ?_ hb]
 intro q hq
 obtain ⟨u, hu, rfl⟩ := List.mem_map.1 hq
 obtain ⟨i, hi⟩ := List.mem_iff_getElem?.1 hu
 rw [List.getElem?_take] at hi
 split at hi
 ·exact h i u ‹_› hi
 ·cases hi
theorem goodM_step {st : List StP} {th : List TrH} {k : Nat} {t : TrH} (h : goodM st th k) (hk : th[k]? = some t) (hb : badM st t.q = false) : goodM st th (k + 1) := by
 intro i u hi hu
 by_cases e : i = k
 ·subst e
  rw [hk] at hu
  injection hu with hu
  subst hu
  exact hb
 ·exact h i u (by omega) hu

def MrPost (w : World) (b : Nat) (st : List StP) (ws : Ws) (e : Ending) (w' : World) : Prop :=
 e = .returned (.int .i64 (mrk st (ws.th.map TrH.q))) ∧ Fr (OwnR b ws) w w' ∧ (mrk st (ws.th.map TrH.q) = -1 → PlV w' b ((ws.th.map TrH.q).foldl mark1 st) ws)

theorem PlV.pokeRem {w : World} {b : Nat} {st : List StP} {ws : Ws} {g c m : Nat} (h : PlV w b st ws) (hv : ws.v2 = .slice (some ⟨g, 0, none⟩) st.length c) (hm : m < st.length) :
  PlV (w.setCell ⟨g, m * 10 + 8, none⟩ (.bool true)) b (st.modify m setRem) ws ∧ Fr (OwnR b ws) w (w.setCell ⟨g, m * 10 + 8, none⟩ (.bool true)) :=
 h.pokeS hv (m * 10 + 8) _ _ (by simp) (flat_set StP.cells 10 StP.len setRem 8 (by decide) _ st m (fun y _ => rfl) hm) (by omega)
theorem PlV.pokeWh {w : World} {b : Nat} {st : List StP} {ws : Ws} {g c m : Nat} (h : PlV w b st ws) (hv : ws.v2 = .slice (some ⟨g, 0, none⟩) st.length c) (hm : m < st.length) :
  PlV (w.setCell ⟨g, m * 10 + 9, none⟩ (.bool true)) b (st.modify m setWh) ws ∧ Fr (OwnR b ws) w (w.setCell ⟨g, m * 10 + 9, none⟩ (.bool true)) :=
 h.pokeS hv (m * 10 + 9) _ _ (by simp) (flat_set StP.cells 10 StP.len setWh 9 (by decide) _ st m (fun y _ => rfl) hm) (by omega)

set_option maxRecDepth 100000 in
set_option maxHeartbeats 2000000 in
theorem markRem_any (w : World) (b : Nat) (st : List StP) (ws : Ws) (hp : PlV w b st ws) (hl : st.length ≤ 1000000) (hl3 : ws.th.length ≤ 1000000) (hts : ∀ t ∈ ws.th, 0 ≤ t.q.ts ∧ t.q.ts < st.length) :
    Calls Tryz.prog 28 #[.pointer (some ⟨b, 0, none⟩)] w (MrPost w b st ws) := by
  obtain ⟨-, c1, -⟩ := hp.cells
  obtain ⟨va, vc, hv⟩ := row_len hp.r3
  rw [hv] at c1
  have HV : Hid _ := hv
  have HTS : Hid (∀ t ∈ ws.th, 0 ≤ t.q.ts ∧ t.q.ts < st.length) := hts
  clear hv hts
  go_enter Tryz.func28, Tryz.ntmps28
  go_wp2_with fail
  clear c1
  go_loopw [11] (fun i wr => ∃ k : Nat, k ≤ ws.th.length ∧ i = .int .i64 k ∧ PlV wr b (stTo st ws.th k) ws ∧ Fr (OwnR b ws) w wr ∧ goodM st ws.th k) (fun i _ => ws.th.length - (intOf i).toNat)
  case atStart => exact ⟨0, Nat.zero_le _, rfl, hp, Fr.refl _ _, fun i t hi => by omega⟩
  case round =>
    obtain ⟨k, hk, rfl, hpk, hfr, hgood⟩ := hrel
    have HGD : Hid _ := hgood
    clear hgood
    by_cases hlt : (k : Int) < ws.th.length
    · have hlt' : k < ws.th.length := by omega
      obtain ⟨g3, c3, hv3, hcc⟩ := row_form hpk.r3 (by omega)
      have hvv := HV.out.symm.trans hv3
      injection hvv with q1 q2 q3
      subst q1
      subst q3
      clear q2
      obtain ⟨t, ht⟩ : ∃ t, ws.th[k]? = some t := ⟨_, List.getElem?_eq_getElem hlt'⟩
      obtain ⟨x0, x1, x2, x3, x4, x5, x6, x7, x8, -⟩ := hpk.tr9 hv3 ht
      obtain ⟨ca, cc, hcv⟩ := row_len (hp.rc t (List.mem_of_getElem? ht))
      rw [hcv] at x2
      obtain ⟨ts0, ts1⟩ := HTS.out t (List.mem_of_getElem? ht)
      obtain ⟨m, hm⟩ := Int.eq_ofNat_of_zero_le ts0
      have hm' : t.q.ts = (m : Int) := hm
      rw [hm'] at x5
      have hml : m < st.length := by omega
      have hslen := stTo_len st ws.th k
      obtain ⟨g2, c2, hv2, hcc2⟩ := row_form hpk.r2 (by omega)
      obtain ⟨y, hy⟩ : ∃ y, (stTo st ws.th k)[m]? = some y := ⟨_, List.getElem?_eq_getElem (by omega)⟩
      have hr2 := hpk.r2
      rw [hv2] at hr2
      obtain ⟨-, -, -, y3, -⟩ := st10 hr2 hy
      have hkk : (y.kind : Nat) = kdP st t.q.ts := by
        have h1 := (fold_get ((ws.th.take k).map TrH.q) st).2 m
        have h2 : (stTo st ws.th k)[m]? = some y := hy
        unfold stTo at h2
        rw [h2] at h1
        rw [kdP, hm', Int.toNat_natCast]
        cases hs : st[m]? with
        | none => rw [hs] at h1; simp at h1
        | some z => rw [hs] at h1; simpa using h1
      have y8 := row_cell hr2 (m * 10 + 8) (.bool y.rem) (by rw [flat_get StP.cells 10 StP.len _ m 8 y hy (by omega)]; rfl)
      have y9 := row_cell hr2 (m * 10 + 9) (.bool y.wh) (by rw [flat_get StP.cells 10 StP.len _ m 9 y hy (by omega)]; rfl)
      obtain ⟨k8, z8⟩ := y8
      obtain ⟨k9, z9⟩ := y9
      obtain ⟨b0, -, -⟩ := hpk.cells
      rw [hv2] at b0
      have hbl := Blk.lt hpk.blk
      have hg2l : g2 < wr.heap.size := World.block_lt_of_cell? _ _ y3
      have HT : Hid (ws.th[k]? = some t) := ht
      have HM : Hid (t.q.ts = (m : Int)) := hm'
      have HKK : Hid _ := hkk
      have HV2 : Hid _ := hv2
      have hml' : (m : Int) < (stTo st ws.th k).length := by omega
      have hsl1000 : (stTo st ws.th k).length ≤ 1000000 := by omega
      clear hv3 ht hcv hcc ts0 ts1 hm hm' hy hr2 hkk hv2
      by_cases hm0 : t.q.mark = 0
      · have hb0 : (((t.q.mark).toNat : Int) == 0) = true := by rw [hm0]; rfl
        have HB : Hid (badM st t.q = false) := by show _ = _; simp [badM, hm0]
        have HS : Hid (stTo st ws.th (k + 1) = stTo st ws.th k) := by show _ = _; rw [stTo_step st ws.th k t HT.out, mark1, if_pos hm0]
        clear hm0
        go_wp2_with fail
        go_roundw
        case rel => exact ⟨k + 1, by omega, by go_num, by rw [HS.out]; exact hpk.fr0 (Fr.alloc _ _ _), hfr.allocr _, goodM_step HGD.out HT.out HB.out⟩
        case measure => simp [intOf]; omega
      · have hb0 : (((t.q.mark).toNat : Int) == 0) = false := by
          rw [beq_eq_false_iff_ne]; intro h; exact hm0 (UInt8.toNat_inj.1 (by show _ = 0; omega))
        have HM0 : Hid (¬ t.q.mark = 0) := hm0
        clear hm0
        by_cases hk1 : y.kind = 1
        · have hkb : ((y.kind : Int) != 1) = false := by simp; omega
          have HB : Hid (badM st t.q = false) := by show _ = _; simp [badM, ← HKK.out, hk1]
          clear hk1
          by_cases h42 : t.q.mark = 42
          · have hb42 : (((t.q.mark).toNat : Int) == 42) = true := by rw [h42]; rfl
            have HS : Hid (stTo st ws.th (k + 1) = ((stTo st ws.th k).modify m setRem).modify m setWh) := by show _ = _; rw [stTo_step st ws.th k t HT.out, mark1, if_neg HM0.out, if_pos h42, HM.out, Int.toNat_natCast]
            clear h42
            go_wp2_with fail
            obtain ⟨p1, f1⟩ := hpk.pokeRem HV2.out (by omega : m < (stTo st ws.th k).length)
            obtain ⟨p2, f2⟩ := p1.pokeWh (g := g2) (c := c2) (by rw [List.length_modify]; exact HV2.out) (by rw [List.length_modify]; omega : m < ((stTo st ws.th k).modify m setRem).length)
            refine ⟨⟨k + 1, by omega, by go_num, ?_, ?_, goodM_step HGD.out HT.out HB.out⟩, by simp [intOf]; omega⟩
            · rw [HS.out]; exact p2.fr0 (Fr.alloc _ _ _)
            · exact ((hfr.thenr f1 (fun _ _ h => h)).thenr f2 (fun _ _ h => h)).allocr _
          · have hb42 : (((t.q.mark).toNat : Int) == 42) = false := by
              rw [beq_eq_false_iff_ne]; intro h; exact h42 (UInt8.toNat_inj.1 (by show _ = 42; omega))
            have HS : Hid (stTo st ws.th (k + 1) = (stTo st ws.th k).modify m setRem) := by show _ = _; rw [stTo_step st ws.th k t HT.out, mark1, if_neg HM0.out, if_neg h42, HM.out, Int.toNat_natCast]
            clear h42
            go_wp2_with fail
            obtain ⟨p1, f1⟩ := hpk.pokeRem HV2.out (by omega : m < (stTo st ws.th k).length)
            refine ⟨⟨k + 1, by omega, by go_num, ?_, ?_, goodM_step HGD.out HT.out HB.out⟩, by simp [intOf]; omega⟩
            · rw [HS.out]; exact p1.fr0 (Fr.alloc _ _ _)
            · exact (hfr.thenr f1 (fun _ _ h => h)).allocr _
        · have hkb : ((y.kind : Int) != 1) = true := by simp; omega
          have HB : Hid (badM st t.q = true) := by show _ = _; simp [badM, ← HKK.out, hk1, HM0.out]
          have HR : Hid _ := mrk_some HGD.out HT.out HB.out
          clear hk1
          go_wp2_with fail
          go_ret
          exact ⟨ret_i64 HR.out.symm, hfr.allocr _, fun h => by rw [HR.out] at h; omega⟩
    · have hkl : k = ws.th.length := by omega
      have HI : Hid (mrk st (ws.th.map TrH.q) = -1) := mrk_none (by rw [← hkl]; exact HGD.out)
      have hpe : PlV wr b ((ws.th.map TrH.q).foldl mark1 st) ws := by rw [← stTo_all, ← hkl]; exact hpk
      clear hkl
      go_wp2_with fail
      go_ret
      exact ⟨ret_i64 HI.out.symm, hfr, fun _ => hpe⟩
end Go.Proofs.YtmolmbeeoecnfaaGreatDoor
