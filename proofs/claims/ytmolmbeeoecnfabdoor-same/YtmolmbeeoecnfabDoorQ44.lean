/- Own work: CoY, CoL, CoJ. -/
import Derived.Test.YtmolmbeeoecnfabDoorQ43
/- Own work: plain: what is known of what Compile answers. -/
namespace Go.Proofs.YtmolmbeeoecnfabDoor
open Go.RowKit Go.BigFrame
set_option linter.unusedVariables false
set_option linter.unusedSimpArgs false

theorem unE_6 (s : ByteArray) : (unE s).1 ≤ 6 := by
  unfold unE
  repeat (first | (split <;> try (simp; done)))
  all_goals simp
theorem limOf_le (rows : Int) : limOf rows ≤ 99 := by unfold limOf; split <;> omega
theorem un_evt {s : ByteArray} (h : (unE s).1 = 0) : ∀ t ∈ th0 s, isE t.q.event = true := by
  intro t ht
  exact un_ev h t.q (by rw [← th0_q]; exact List.mem_map_of_mem ht)
/-- What is known of a table that Compile answers. -/
structure CpT (s : ByteArray) (rows : Int) (t : ByteArray) (l : List Sx) (Cs : List (List Cl)) : Prop where
  ok : (unE s).1 = 0
  ct : CoT (unSt s) (th0 s) (limOf rows) l Cs
  tx : t = ⟨(taK (evS (th0 s)) ⟨(begP (unSt s)).out.toArray⟩ (Cs.map txC) Cs.length).toArray⟩
theorem cpS_some {s t : ByteArray} {rows : Int} (h0 : (unE s).1 = 0) (h : cpS s rows = some t) : ∃ l Cs, CpT s rows t l Cs := by
  obtain ⟨l, Cs, h1, h2⟩ := coR_some h
  exact ⟨l, Cs, h0, h1, h2⟩
theorem un_dga (s : ByteArray) : ∀ t ∈ th0 s, DgA t.q.acts := by
  intro t ht
  exact (un_dd s).2 t.q (by rw [← th0_q]; exact List.mem_map_of_mem ht)
section
variable {s t : ByteArray} {rows : Int} {l : List Sx} {Cs : List (List Cl)} (h : CpT s rows t l Cs)
include h
theorem CpT.size : t.size ≤ 600000 := by
  have hp := plan_ok s h.ok
  have hw : sW (unSt s) + tW ((th0 s).map TrH.q) ≤ 160 := by rw [th0_q]; exact un_wt h.ok
  have h1 := h.ct.len_ok (limOf_le rows) (un_lg h.ok ⟨#[]⟩).1 (fun t ht => (hp.trs t.q (by rw [← th0_q]; exact List.mem_map_of_mem ht)).1) hw
  rw [h.tx]
  show (taK _ _ _ _).toArray.size ≤ _
  simpa using h1
theorem CpT.rd : rdT t = (0, 0) := by
  have h1 := h.size
  rw [h.tx] at h1 ⊢
  exact h.ct.right (un_dd s).1 (un_dga s) (limOf_le rows) (by
    have h2 : (taK (evS (th0 s)) ⟨(begP (unSt s)).out.toArray⟩ (Cs.map txC) Cs.length).toArray.size ≤ 600000 := h1
    simpa using h2)
theorem CpT.form : (formP t).1 = true ∧ (formP t).2.2.events = evS (th0 s) ∧ (formP t).2.2.begin_ = ⟨(begP (unSt s)).out.toArray⟩ ∧ ∃ p, (formP t).2.2.rows = rtR p (rts Cs) := by
  have h1 := h.ct.form (un_dd s).1 (un_dga s) (limOf_le rows)
  rw [h.tx, h1]
  exact ⟨rfl, rfl, rfl, _, rfl⟩
theorem CpT.ld : ldE t = (0, 0) := by rw [load_eq, h.rd]
/-- The table's answer to a list of events. -/
theorem CpT.run (es : ByteArray) (he : es.size ≤ 400) : ∃ n, runX t es = (pO s es, n, 0, 0) ∧ l[n]? = some (sxP (plQ s es)) := by
  obtain ⟨f1, f2, f3, p, f4⟩ := h.form
  obtain ⟨n, h1, h2⟩ := h.ct.sim (un_dd s).1 (un_dga s) (limOf_le rows) (un_evt h.ok) p es es.size
  refine ⟨n, ?_, h2⟩
  rw [runX, if_neg (by omega), h.ld, if_neg (by simp), f2, f3, f4, h1, pO, if_pos h.ok]
  rfl
theorem CpT.len : (formP t).2.2.rows.length = l.length ∧ 0 < l.length := by
  obtain ⟨f1, f2, f3, p, f4⟩ := h.form
  have h1 := (List.getElem?_eq_some_iff.1 h.ct.st0).1
  rw [f4, rtR_len]
  refine ⟨?_, h1⟩
  rw [← h.ct.len]; simp [rts]
/-- A table is no shorter than this. -/
theorem CpT.three : 3 ≤ t.size := by
  have h1 := h.len.2
  have h2 := h.ct.len
  rw [h.tx, taK_tb _ _ Cs Cs.length (Nat.le_refl _)]
  show 3 ≤ (tbT _ _ _).toArray.size
  have h3 : 1 ≤ (rtT ((List.range Cs.length).map (rtOf Cs))).length := by
    obtain ⟨m, hm⟩ : ∃ m, Cs.length = m + 1 := ⟨Cs.length - 1, by omega⟩
    rw [hm, List.range_succ, List.map_append]
    simp only [List.map_cons, List.map_nil, rtT_snoc, List.length_append, List.length_cons, List.length_nil]
    omega
  simp only [tbT, List.size_toArray, List.length_append, List.length_cons, List.length_nil]
  omega
end
end Go.Proofs.YtmolmbeeoecnfabDoor

/- Own work: plain: the limit decides only whether there is a table; each status is first met by one that stands ahead of it. -/
namespace Go.Proofs.YtmolmbeeoecnfabDoor
open Go.RowKit Go.BigFrame
set_option linter.unusedVariables false
set_option linter.unusedSimpArgs false

section
variable {st : List StP} {th : List TrH} {es : ByteArray}
theorem coG_pre {lim : Int} : ∀ (f : Nat) (l : List Sx) (Cs : List (List Cl)) (z : List Sx × List (List Cl)), coG st th es lim f l Cs = some z → l <+: z.1
  | 0, l, Cs, z, h => by rw [coG] at h; cases h
  | f + 1, l, Cs, z, h => by
    rw [coG] at h
    split at h
    · injection h with h; rw [← h]
      exact List.prefix_refl _
    · split at h
      · cases h
      · exact (ceK_pre st th es _ l es.size).trans (coG_pre f _ _ z h)
theorem coG_lim {lim lim' : Int} : ∀ (f : Nat) (l : List Sx) (Cs : List (List Cl)) (z : List Sx × List (List Cl)), coG st th es lim f l Cs = some z → (z.1.length : Int) ≤ lim' → coG st th es lim' f l Cs = some z
  | 0, l, Cs, z, h, _ => by rw [coG] at h; cases h
  | f + 1, l, Cs, z, h, hz => by
    have hp := (coG_pre (f + 1) l Cs z h).length_le
    rw [coG] at h ⊢
    split at h
    · exact h
    · split at h
      · cases h
      · rw [if_neg (by omega)]
        exact coG_lim f _ _ z h hz
/-- One cell: how many statuses are known behind it. -/
def knC (n : Nat) (c : Cl) : Option Nat := if n < c.dst then none else some (if c.dst = n then n + 1 else n)
def knL : Nat → List Cl → Option Nat
  | n, [] => some n
  | n, c :: r => match knC n c with | some m => knL m r | none => none
/-- Row by row, from row i on. -/
def knR : Nat → Nat → List (List Cl) → Option Nat
  | _, n, [] => some n
  | i, n, C :: r => if n ≤ i then none else match knL n C with | some m => knR (i + 1) m r | none => none
theorem knL_app : ∀ (a b : List Cl) (n : Nat), knL n (a ++ b) = match knL n a with | some m => knL m b | none => none
  | [], b, n => rfl
  | c :: a, b, n => by
    simp only [List.cons_append, knL]
    cases knC n c with
    | none => rfl
    | some m => exact knL_app a b m
theorem knL_ce (x : Sx) (l : List Sx) : ∀ k, knL l.length (ceC st th es x l k) = some (ceK st th es x l k).1.length
  | 0 => rfl
  | k + 1 => by
    rw [ceC, knL_app, knL_ce x l k]
    simp only [knL, knC]
    have h1 := nuS_le (ceK st th es x l k).1 (sxP (spS st th (byte es k) x))
    rw [if_neg (by omega)]
    simp only [ceK, adS]
    by_cases h2 : nuS (ceK st th es x l k).1 (sxP (spS st th (byte es k) x)) < (ceK st th es x l k).1.length
    · rw [if_neg (by omega), if_pos h2]
    · rw [if_pos (by omega), if_neg h2]
      simp
theorem coG_kn {lim : Int} : ∀ (f : Nat) (l : List Sx) (Cs : List (List Cl)) (z : List Sx × List (List Cl)), coG st th es lim f l Cs = some z → ∃ Ds, z.2 = Cs ++ Ds ∧ knR Cs.length l.length Ds = some z.1.length
  | 0, l, Cs, z, h => by rw [coG] at h; cases h
  | f + 1, l, Cs, z, h => by
    rw [coG] at h
    split at h
    · injection h with h; rw [← h]
      exact ⟨[], by simp, rfl⟩
    · rename_i x hx
      split at h
      · cases h
      · obtain ⟨Ds, h1, h2⟩ := coG_kn f _ _ z h
        refine ⟨ceC st th es x l es.size :: Ds, by rw [h1]; simp, ?_⟩
        have h3 := (List.getElem?_eq_some_iff.1 hx).1
        rw [knR, if_neg (by omega), knL_ce]
        simp only
        rw [List.length_append] at h2
        exact h2
end
/-- What coR answers, at each limit. -/
theorem coR_all {st : List StP} {th : List TrH} {lim : Int} {t : ByteArray} (h : coR st th lim = some t) :
    ∃ l Cs, CoT st th lim l Cs ∧ t = ⟨(taK (evS th) ⟨(begP st).out.toArray⟩ (Cs.map txC) Cs.length).toArray⟩ ∧ knR 0 1 Cs = some l.length ∧ (∀ lim', (l.length : Int) ≤ lim' → coR st th lim' = some t) ∧ ∀ lim', lim' < (l.length : Int) → lim' ≤ lim → coR st th lim' = none := by
  have hco : ∀ lim, coR st th lim = (coG st th (evS th) lim 100 [sxP (begP st)] []).map fun z => ⟨(taK (evS th) ⟨(begP st).out.toArray⟩ (z.2.map txC) z.2.length).toArray⟩ := by
    intro lim
    unfold coR
    have h1 := coF_coG st th (evS th) lim 100 [sxP (begP st)] []
    rw [List.map_nil] at h1
    rw [h1]
    cases coG st th (evS th) lim 100 [sxP (begP st)] [] with
    | none => rfl
    | some z => simp
  rw [hco] at h
  cases hz : coG st th (evS th) lim 100 [sxP (begP st)] [] with
  | none => rw [hz] at h; cases h
  | some z =>
    rw [hz] at h
    simp only [Option.map_some, Option.some.injEq] at h
    have h0 : CoI st th (evS th) [sxP (begP st)] [] := by
      refine ⟨fun i j x hi hj => ?_, by simp, fun i C hi => by simp at hi⟩
      have a1 := (List.getElem?_eq_some_iff.1 hi).1
      have a2 := (List.getElem?_eq_some_iff.1 hj).1
      simp only [List.length_cons, List.length_nil] at a1 a2
      omega
    obtain ⟨q1, q2, q3, q4⟩ := coG_ok 100 _ _ z h0 rfl (Or.inl (by simp)) hz
    obtain ⟨Ds, d1, d2⟩ := coG_kn 100 _ _ z hz
    rw [List.nil_append] at d1
    refine ⟨z.1, z.2, ⟨q1, q2, q3, q4⟩, h.symm, by rw [d1]; exact d2, fun lim' hl => ?_, fun lim' hl hl2 => ?_⟩
    · rw [hco, coG_lim 100 _ _ z hz hl]
      simp only [Option.map_some, h]
    · rw [hco]
      cases hz' : coG st th (evS th) lim' 100 [sxP (begP st)] [] with
      | none => rfl
      | some z' =>
        exfalso
        have q4' := (coG_ok 100 _ _ z' h0 rfl (Or.inl (by simp)) hz').2.2.2
        have h5 := coG_lim (lim' := lim) 100 _ _ z' hz' (by omega)
        rw [hz] at h5
        injection h5 with h5
        rw [h5] at hl
        omega
/-- With the count of the statuses. -/
structure CpN (s : ByteArray) (rows : Int) (t : ByteArray) (l : List Sx) (Cs : List (List Cl)) : Prop where
  ct : CpT s rows t l Cs
  kn : knR 0 1 Cs = some l.length
  yes : ∀ more : Int, (l.length : Int) ≤ more → cpS s more = some t
  no : ∀ more : Int, more < (l.length : Int) → cpS s more = none
  le : (l.length : Int) ≤ rows
theorem cpS_all {s t : ByteArray} {rows : Int} (h0 : (unE s).1 = 0) (h : cpS s rows = some t) : ∃ l Cs, CpN s rows t l Cs := by
  obtain ⟨l, Cs, h1, h2, h3, h4, h5⟩ := coR_all h
  have h6 := h1.lm
  have h7 := limOf_le rows
  refine ⟨l, Cs, ⟨h0, h1, h2⟩, h3, fun more hm => h4 _ ?_, fun more hm => h5 _ ?_ ?_, ?_⟩
  · unfold limOf; split <;> omega
  · unfold limOf; split <;> omega
  · unfold limOf at h6 ⊢; split <;> split at h6 <;> omega
  · unfold limOf at h6; split at h6 <;> omega
/-- Where there is none with rows, there is none with fewer. -/
theorem cpS_none {s : ByteArray} {rows more : Int} (h0 : (unE s).1 = 0) (h : cpS s rows = none) (hm : more ≤ rows) : cpS s more = none := by
  cases hc : cpS s more with
  | none => rfl
  | some t =>
    obtain ⟨l, Cs, hN⟩ := cpS_all h0 hc
    have := hN.yes rows (by have := hN.le; omega)
    rw [h] at this; cases this
end Go.Proofs.YtmolmbeeoecnfabDoor

/- Own work: plain: the text of a status tells it. -/
namespace Go.Proofs.YtmolmbeeoecnfabDoor
open Go.RowKit Go.BigFrame
set_option linter.unusedVariables false
set_option linter.unusedSimpArgs false

/-- A set of states below n. -/
structure Bel (n : Nat) (m : List Bool) : Prop where
  len : m.length = 26
  bd : ∀ j, mem m j = true → j < n
structure Bnd (n : Nat) (p : Py) : Prop where
  ac : Bel n p.act
  ml : p.mm.length = 26
  me : ∀ (i : Nat) (m : List Bool), p.mm[i]? = some m → Bel n m ∧ (n ≤ i → m = noSet)
theorem Bel.no (n : Nat) : Bel n noSet := ⟨rfl, fun j h => by rw [mem_no] at h; cases h⟩
theorem Bel.set {n : Nat} {m : List Bool} (h : Bel n m) {k : Nat} (hk : k < n) (v : Bool) : Bel n (m.set k v) := by
  refine ⟨by rw [List.length_set]; exact h.len, fun j hj => ?_⟩
  rw [mem_set] at hj
  split at hj
  · rename_i e; omega
  · exact h.bd j hj
theorem Bel.off {n : Nat} {m : List Bool} (h : Bel n m) (k : Nat) : Bel n (m.set k false) := by
  refine ⟨by rw [List.length_set]; exact h.len, fun j hj => ?_⟩
  rw [mem_set] at hj
  split at hj
  · cases hj
  · exact h.bd j hj
theorem Bnd.act {n : Nat} {p : Py} (h : Bnd n p) {a : List Bool} (ha : Bel n a) (o : List UInt8) : Bnd n { p with act := a, out := o } := ⟨ha, h.ml, h.me⟩
theorem itF_bnd (n : Nat) (g : Nat → Py → Py) (hg : ∀ i p, Bnd n p → Bnd n (g i p)) : ∀ (k i : Nat) (p : Py), Bnd n p → Bnd n (itF g k i p)
  | 0, i, p, h => h
  | k + 1, i, p, h => itF_bnd n g hg k (i + 1) _ (hg i p h)
theorem enF_bnd (st : List StP) : ∀ (f s : Nat) (a : Am) (p : Py), Bnd st.length p → Bnd st.length (enF st f s a p)
  | 0, s, a, p, h => h
  | f + 1, s, a, p, h => by
    rw [enF]
    split
    · exact h
    · rename_i x hx
      have h1 := h.act (h.ac.set (List.getElem?_eq_some_iff.1 hx).1 true) (p.out ++ bls x.enter)
      split
      · refine itF_bnd _ _ ?_ _ _ _ h1
        intro i q hq
        split
        · exact enF_bnd st f i a q hq
        · exact hq
      · split
        · exact enF_bnd st f _ _ _ h1
        · exact h1
theorem lvF_bnd (st : List StP) (left : List Bool) : ∀ (k : Nat) (p : Py), Bnd st.length p → Bnd st.length (lvF st left k p)
  | 0, p, h => h
  | k + 1, p, h => by
    rw [lvF]
    split
    · exact lvF_bnd st left k _ (h.act (h.ac.off k) _)
    · exact lvF_bnd st left k p h
theorem rmM_bel {st : List StP} (ht : Tr st) {i : Nat} {x : StP} (hx : st[i]? = some x) (hk : x.kind ≠ 0) (wh : Bool) {act : List Bool} (ha : Bel st.length act) : Bel st.length (rmM st wh act i) := by
  refine ⟨rmM_len _ _ _ _, ?_⟩
  unfold rmM
  split
  · intro j hj
    have h26 : j < 26 := mem_ge (belK_len act i (endAt st i)) hj
    unfold actB at hj
    rw [mem_bel _ _ _ _ h26] at hj
    simp only [Bool.and_eq_true] at hj
    exact ha.bd j hj.2
  · have h1 := ht.wf.inn i x hx hk
    have h2 := inAm_ch ht (List.getElem?_eq_some_iff.1 hx).1 (by rw [endAt_at hx]; exact h1) (actB st act i)
    exact ((Bel.no st.length).set h2.1 true).bd
theorem rmF_bnd {st : List StP} (ht : Tr st) (hr : RmOk st) (left : List Bool) : ∀ (k : Nat) (p : Py), Bnd st.length p → Bnd st.length (rmF st left k p)
  | 0, p, h => h
  | k + 1, p, h => by
    have ih := rmF_bnd ht hr left k p h
    rw [rmF, rmS]
    split
    · rename_i x hx
      split
      · rename_i hc
        have hb := rmM_bel ht hx (hr k x hx hc.2) x.wh ih.ac
        have hk := (List.getElem?_eq_some_iff.1 hx).1
        refine ⟨ih.ac, by show ((rmF st left k p).mm.set k _).length = 26; rw [List.length_set]; exact ih.ml, fun i m hm => ?_⟩
        have hm' : ((rmF st left k p).mm.set k (rmM st x.wh (rmF st left k p).act k))[i]? = some m := hm
        rw [List.getElem?_set] at hm'
        split at hm'
        · rename_i e
          split at hm'
          · simp only [Option.some.injEq] at hm'
            rw [← hm']
            exact ⟨hb, fun h => by omega⟩
          · cases hm'
        · exact ih.me i m hm'
      · exact ih
    · exact ih
theorem tkF_bnd {st : List StP} (ht : Tr st) (hr : RmOk st) (t : TrQ) (p : Py) (h : Bnd st.length p) : Bnd st.length (tkF st t p) := by
  unfold tkF
  have h1 := lvF_bnd st (lefB st p.act t) st.length _ (rmF_bnd ht hr (lefB st p.act t) st.length p h)
  exact enF_bnd st 26 _ _ _ (h1.act h1.ac _)
theorem fold_bnd {st : List StP} (ht : Tr st) (hr : RmOk st) (th : List TrH) : ∀ (ns : List Nat) (p : Py), Bnd st.length p → Bnd st.length (ns.foldl (tk1 st th) p)
  | [], p, h => h
  | n :: ns, p, h => by
    rw [List.foldl_cons]
    refine fold_bnd ht hr th ns _ ?_
    unfold tk1; split
    · exact tkF_bnd ht hr _ p h
    · exact h
theorem plK_bnd {st : List StP} (ht : Tr st) (hr : RmOk st) (th : List TrH) (es : ByteArray) : ∀ k, Bnd st.length (plK st th es k)
  | 0 => enF_bnd st _ _ _ _ ⟨Bel.no _, rfl, fun i m hm => by
      have : m = noSet := by
        have h1 : (List.replicate 26 noSet)[i]? = some m := hm
        rw [List.getElem?_replicate] at h1
        split at h1
        · simp only [Option.some.injEq] at h1; exact h1.symm
        · cases h1
      rw [this]
      exact ⟨Bel.no _, fun _ => rfl⟩⟩
  | k + 1 => by
    have h := plK_bnd ht hr th es k
    exact fold_bnd ht hr th _ _ (h.act h.ac _)
/-! Texts. -/
theorem bel_ext {n : Nat} {m m' : List Bool} (h : Bel n m) (h' : Bel n m') (he : ∀ j, j < n → mem m j = mem m' j) : m = m' := by
  apply List.ext_getElem?
  intro j
  by_cases hj : j < 26
  · have e1 : m[j]? = some (mem m j) := by
      unfold mem
      rw [List.getElem?_eq_getElem (by rw [h.len]; exact hj)]
    have e2 : m'[j]? = some (mem m' j) := by
      unfold mem
      rw [List.getElem?_eq_getElem (by rw [h'.len]; exact hj)]
    rw [e1, e2]
    by_cases hn : j < n
    · rw [he j hn]
    · have a1 : mem m j = false := by
        cases hb : mem m j with
        | false => rfl
        | true => exact absurd (h.bd j hb) hn
      have a2 : mem m' j = false := by
        cases hb : mem m' j with
        | false => rfl
        | true => exact absurd (h'.bd j hb) hn
      rw [a1, a2]
  · rw [List.getElem?_eq_none (by rw [h.len]; omega), List.getElem?_eq_none (by rw [h'.len]; omega)]
def NmI (st : List StP) : Prop := (∀ k, k < st.length → nameAt st k ≠ 47) ∧ ∀ i k, i < st.length → k < st.length → nameAt st i = nameAt st k → i = k
theorem nmK_inj {st : List StP} (hn : NmI st) {m m' : List Bool} (h : Bel st.length m) (h' : Bel st.length m') (he : nmK st m st.length = nmK st m' st.length) : m = m' := by
  have key : ∀ (a b : List Bool), nmK st a st.length = nmK st b st.length → ∀ j, j < st.length → mem a j = true → mem b j = true := by
    intro a b e j hj ha
    have h1 : nameAt st j ∈ nmK st a st.length := (nmK_mem st a _ _).2 ⟨j, hj, ha, rfl⟩
    rw [e] at h1
    obtain ⟨i, h2, h3, h4⟩ := (nmK_mem st b _ _).1 h1
    rw [hn.2 i j h2 hj h4] at h3
    exact h3
  refine bel_ext h h' (fun j hj => ?_)
  cases hb : mem m j with
  | true => exact (key m m' he j hj hb).symm
  | false =>
    cases hb' : mem m' j with
    | false => rfl
    | true => rw [key m' m he.symm j hj hb'] at hb; cases hb
theorem nmK_sl {st : List StP} (hn : NmI st) (m : List Bool) : ∀ c ∈ nmK st m st.length, c ≠ 47 := by
  intro c hc
  obtain ⟨j, h1, -, h3⟩ := (nmK_mem st m c _).1 hc
  rw [← h3]; exact hn.1 j h1
/-- The memories, one after another. -/
def sgL (st : List StP) (mm : List (List Bool)) : Nat → List (List UInt8)
  | 0 => []
  | k + 1 => if emp (memAt mm k) = true then sgL st mm k else sgL st mm k ++ [nameAt st k :: nmK st (memAt mm k) st.length]
def flS (L : List (List UInt8)) : List UInt8 := L.flatMap fun x => 47 :: x
theorem stT_fl (st : List StP) (act : List Bool) (mm : List (List Bool)) : ∀ k, stT st act mm k = nmK st act st.length ++ flS (sgL st mm k)
  | 0 => by simp [stT, sgL, flS]
  | k + 1 => by
    rw [stT, sgL, stT_fl st act mm k]
    split
    · rfl
    · simp [flS]
theorem sg_cut : ∀ (A B R Q : List UInt8), (∀ c ∈ A, c ≠ 47) → (∀ c ∈ B, c ≠ 47) → (R = [] ∨ ∃ r, R = 47 :: r) → (Q = [] ∨ ∃ r, Q = 47 :: r) → A ++ R = B ++ Q → A = B ∧ R = Q
  | [], [], R, Q, _, _, _, _, h => ⟨rfl, h⟩
  | [], b :: B, R, Q, _, hB, hR, _, h => by
    exfalso
    rcases hR with rfl | ⟨r, rfl⟩
    · simp at h
    · simp only [List.nil_append, List.cons_append, List.cons.injEq] at h
      exact hB b (by simp) h.1.symm
  | a :: A, [], R, Q, hA, _, _, hQ, h => by
    exfalso
    rcases hQ with rfl | ⟨r, rfl⟩
    · simp at h
    · simp only [List.nil_append, List.cons_append, List.cons.injEq] at h
      exact hA a (by simp) h.1
  | a :: A, b :: B, R, Q, hA, hB, hR, hQ, h => by
    simp only [List.cons_append, List.cons.injEq] at h
    obtain ⟨h1, h2⟩ := sg_cut A B R Q (fun c hc => hA c (by simp [hc])) (fun c hc => hB c (by simp [hc])) hR hQ h.2
    exact ⟨by rw [h.1, h1], h2⟩
theorem flS_hd (L : List (List UInt8)) : flS L = [] ∨ ∃ r, flS L = 47 :: r := by
  cases L with
  | nil => exact Or.inl rfl
  | cons x L => exact Or.inr ⟨x ++ flS L, by simp [flS]⟩
theorem flS_inj : ∀ (L M : List (List UInt8)), (∀ x ∈ L, ∀ c ∈ x, c ≠ 47) → (∀ x ∈ M, ∀ c ∈ x, c ≠ 47) → flS L = flS M → L = M
  | [], [], _, _, _ => rfl
  | [], y :: M, _, _, h => by simp [flS] at h
  | x :: L, [], _, _, h => by simp [flS] at h
  | x :: L, y :: M, hL, hM, h => by
    have e : ∀ (z : List UInt8) (N : List (List UInt8)), flS (z :: N) = 47 :: (z ++ flS N) := fun z N => by simp [flS]
    rw [e, e] at h
    simp only [List.cons.injEq, true_and] at h
    obtain ⟨h1, h2⟩ := sg_cut x y _ _ (hL x (by simp)) (hM y (by simp)) (flS_hd L) (flS_hd M) h
    rw [h1, flS_inj L M (fun z hz => hL z (by simp [hz])) (fun z hz => hM z (by simp [hz])) h2]
theorem sgL_mem (st : List StP) (mm : List (List Bool)) (x : List UInt8) : ∀ k, x ∈ sgL st mm k ↔ ∃ j, j < k ∧ emp (memAt mm j) = false ∧ x = nameAt st j :: nmK st (memAt mm j) st.length
  | 0 => by simp [sgL]
  | k + 1 => by
    have ih := sgL_mem st mm x k
    rw [sgL]
    split
    · rename_i hc
      rw [ih]
      refine ⟨fun ⟨j, h1, h2, h3⟩ => ⟨j, by omega, h2, h3⟩, fun ⟨j, h1, h2, h3⟩ => ⟨j, ?_, h2, h3⟩⟩
      by_cases e : j = k
      · subst e; rw [hc] at h2; cases h2
      · omega
    · rename_i hc
      simp only [List.mem_append, List.mem_cons, List.not_mem_nil, or_false, ih]
      constructor
      · rintro (⟨j, h1, h2, h3⟩ | h)
        · exact ⟨j, by omega, h2, h3⟩
        · exact ⟨k, by omega, by simpa using hc, h⟩
      · rintro ⟨j, h1, h2, h3⟩
        by_cases e : j = k
        · subst e; exact Or.inr h3
        · exact Or.inl ⟨j, by omega, h2, h3⟩
theorem emp_no {n : Nat} {m : List Bool} (h : Bel n m) (he : emp m = true) : m = noSet := by
  refine bel_ext h (Bel.no n) (fun j hj => ?_)
  rw [mem_no]
  cases hb : mem m j with
  | false => rfl
  | true =>
    exfalso
    have h26 := mem_ge h.len hb
    unfold emp at he
    rw [List.all_eq_true] at he
    have := he j (by simp [h26])
    rw [hb] at this; cases this
/-- The text tells the status. -/
theorem stT_inj {st : List StP} (hn : NmI st) {p q : Py} (hp : Bnd st.length p) (hq : Bnd st.length q) (h : stT st p.act p.mm st.length = stT st q.act q.mm st.length) : sxP p = sxP q := by
  rw [stT_fl, stT_fl] at h
  have hsl : ∀ (mm : List (List Bool)), ∀ x ∈ sgL st mm st.length, ∀ c ∈ x, c ≠ 47 := by
    intro mm x hx c hc
    obtain ⟨j, h1, -, rfl⟩ := (sgL_mem st mm x _).1 hx
    rcases List.mem_cons.1 hc with e | e
    · rw [e]; exact hn.1 j h1
    · exact nmK_sl hn _ c e
  obtain ⟨h1, h2⟩ := sg_cut _ _ _ _ (nmK_sl hn p.act) (nmK_sl hn q.act) (flS_hd _) (flS_hd _) h
  have h3 := flS_inj _ _ (hsl p.mm) (hsl q.mm) h2
  have hat : ∀ {r : Py}, Bnd st.length r → ∀ i, i < 26 → r.mm[i]? = some (memAt r.mm i) ∧ Bel st.length (memAt r.mm i) ∧ (st.length ≤ i → memAt r.mm i = noSet) := by
    intro r hr i hi
    have e : r.mm[i]? = some (memAt r.mm i) := by
      unfold memAt
      rw [List.getElem?_eq_getElem (by rw [hr.ml]; exact hi)]
    exact ⟨e, hr.me i _ e⟩
  have key : ∀ {a b : Py}, Bnd st.length a → Bnd st.length b → sgL st a.mm st.length = sgL st b.mm st.length → ∀ i, i < st.length → i < 26 → emp (memAt a.mm i) = false → memAt a.mm i = memAt b.mm i := by
    intro a b ha hb e i hi h26 he
    have m1 := (sgL_mem st a.mm _ st.length).2 ⟨i, hi, he, rfl⟩
    rw [e] at m1
    obtain ⟨j, j1, j2, j3⟩ := (sgL_mem st b.mm _ st.length).1 m1
    simp only [List.cons.injEq] at j3
    have : i = j := hn.2 i j hi j1 j3.1
    subst this
    exact nmK_inj hn (hat ha i h26).2.1 (hat hb i h26).2.1 j3.2
  refine Prod.ext (nmK_inj hn hp.ac hq.ac h1) ?_
  show p.mm = q.mm
  apply List.ext_getElem?
  intro i
  by_cases hi : i < 26
  · rw [(hat hp i hi).1, (hat hq i hi).1]
    congr 1
    by_cases hs : i < st.length
    · cases he : emp (memAt p.mm i) with
      | false => exact key hp hq h3 i hs hi he
      | true =>
        cases he' : emp (memAt q.mm i) with
        | false => exact (key hq hp h3.symm i hs hi he').symm
        | true => rw [emp_no (hat hp i hi).2.1 he, emp_no (hat hq i hi).2.1 he']
    · rw [(hat hp i hi).2.2 (by omega), (hat hq i hi).2.2 (by omega)]
  · rw [List.getElem?_eq_none (by rw [hp.ml]; omega), List.getElem?_eq_none (by rw [hq.ml]; omega)]
theorem un_nmI {s : ByteArray} (h : (unE s).1 = 0) : NmI (unSt s) := by
  obtain ⟨h1, h2⟩ := un_names h
  refine ⟨fun k hk e => ?_, fun i k hi hk e => ?_⟩
  · have := h1 k hk
    rw [e] at this
    exact absurd this (by decide)
  · rcases Nat.lt_trichotomy i k with h3 | h3 | h3
    · exact absurd e (h2 i k h3 hk)
    · exact h3
    · exact absurd e.symm (h2 k i h3 hi)
/-- Two lists of events: the same text, the same status. -/
theorem un_same {s : ByteArray} (h : (unE s).1 = 0) (a b : ByteArray) : pS s a = pS s b ↔ sxP (plQ s a) = sxP (plQ s b) := by
  have hp := plan_ok s h
  have ht := (un_lg h ⟨#[]⟩).1
  have ha : Bnd (unSt s).length (plQ s a) := plK_bnd ht hp.rm _ _ _
  have hb : Bnd (unSt s).length (plQ s b) := plK_bnd ht hp.rm _ _ _
  rw [pS, pS, if_pos h, if_pos h]
  constructor
  · intro e
    refine stT_inj (un_nmI h) ha hb ?_
    have e2 := congrArg (fun x : ByteArray => x.data.toList) e
    simpa using e2
  · intro e
    have e1 : (plQ s a).act = (plQ s b).act := congrArg Prod.fst e
    have e2 : (plQ s a).mm = (plQ s b).mm := congrArg Prod.snd e
    rw [e1, e2]
end Go.Proofs.YtmolmbeeoecnfabDoor
