/- Own work: the active states fit together: a transition, a step, every list of events. -/
import Derived.Test.YtmolmbeeoecnfaaLgB
namespace Go.Proofs.Ytmolmbeeoecnfaa
open Go.RowKit Go.BigFrame
set_option linter.unusedVariables false
set_option linter.unusedSimpArgs false

theorem lvF_mem (st : List StP) (left : List Bool) : ∀ (k : Nat) (p : Py) (j : Nat), mem (lvF st left k p).act j = if j < k ∧ mem left j = true then false else mem p.act j
  | 0, p, j => by rw [lvF, if_neg (by omega)]
  | k + 1, p, j => by
    rw [lvF, lvF_mem st left k]
    by_cases h1 : j < k ∧ mem left j = true
    · rw [if_pos h1, if_pos ⟨by omega, h1.2⟩]
    · rw [if_neg h1]
      by_cases h2 : mem left k = true
      · rw [if_pos h2]
        show mem (p.act.set k false) j = _
        by_cases h3 : k = j
        · subst h3
          rw [if_pos ⟨by omega, h2⟩, mem_set]
          split
          · rfl
          · rename_i h4
            have : p.act[k]? = none := by
              rw [List.getElem?_eq_none_iff]
              by_cases h5 : k < p.act.length
              · exact absurd ⟨rfl, h5⟩ h4
              · omega
            unfold mem; rw [this]
        · rw [mem_set_ne h3]
          rw [if_neg]
          rintro ⟨h4, h5⟩
          exact h1 ⟨by omega, h5⟩
      · rw [if_neg h2, if_neg]
        rintro ⟨h4, h5⟩
        by_cases h6 : j = k
        · subst h6; exact h2 h5
        · exact h1 ⟨by omega, h5⟩
theorem mem_bel (act : List Bool) (o k i : Nat) (h : i < 26) : mem (belK act o k) i = (decide (o < i) && decide (i < k) && mem act i) := by
  conv => lhs; unfold mem
  simp [belK, h]
theorem mem_ge {l : List Bool} (hl : l.length = 26) {i : Nat} (h : mem l i = true) : i < 26 := by
  unfold mem at h
  cases e : l[i]? with
  | none => rw [e] at h; cases h
  | some v => have := (List.getElem?_eq_some_iff.1 e).1; omega

/-- All active states fit together. -/
structure Lg (st : List StP) (act : List Bool) : Prop where
  rt : mem act 0 = true
  loc : ∀ i, i < st.length → Loc st act i
theorem Lg.up {st : List StP} {act : List Bool} (ht : Tr st) (h : Lg st act) {k : Nat} (hk : k < st.length) (ha : mem act k = true) : outAt st k = -1 ∨ ∃ j : Nat, outAt st k = (j : Int) ∧ j < st.length ∧ mem act j = true := by
  have h1 := ht.out_lt hk
  by_cases e : outAt st k = -1
  · exact Or.inl e
  · obtain ⟨j, hj⟩ : ∃ j : Nat, outAt st k = (j : Int) := ⟨(outAt st k).toNat, by omega⟩
    refine Or.inr ⟨j, hj, by omega, ?_⟩
    cases hm : mem act j with
    | true => rfl
    | false =>
      have := (h.loc j (by omega)).off hm k hk hj
      rw [this] at ha; cases ha
/-- The scope is none, or an active or-state. -/
def ScOn (st : List StP) (act : List Bool) (t : TrQ) : Prop := scOf st t = -1 ∨ ∃ d : Nat, scOf st t = (d : Int) ∧ d < st.length ∧ kindAt st d = 1 ∧ mem act d = true
theorem scF_on {st : List StP} {act : List Bool} (ht : Tr st) (h : Lg st act) (ts : Nat) : ∀ (f : Nat) (s : Int), (s = -1 ∨ ∃ j : Nat, s = (j : Int) ∧ j < st.length ∧ mem act j = true) → scF st ts f s = -1 ∨ ∃ d : Nat, scF st ts f s = (d : Int) ∧ d < st.length ∧ kindAt st d = 1 ∧ mem act d = true
  | 0, s, _ => Or.inl rfl
  | f + 1, s, hs => by
    unfold scF
    rcases hs with hs | ⟨j, rfl, h1, h2⟩
    · rw [if_pos hs]; exact Or.inl rfl
    · rw [if_neg (by omega)]
      by_cases hc : (kindAt st (j : Int).toNat == 1 && isB st ts (j : Int).toNat) = true
      · rw [if_pos hc]
        simp only [Bool.and_eq_true, beq_iff_eq, Int.toNat_natCast] at hc
        exact Or.inr ⟨j, rfl, h1, hc.1, h2⟩
      · rw [if_neg hc]
        refine scF_on ht h ts f _ ?_
        rw [Int.toNat_natCast]
        exact h.up ht h1 h2
theorem scOn_of {st : List StP} {act : List Bool} (ht : Tr st) (h : Lg st act) {t : TrQ} (h1 : t.own < st.length) (h2 : mem act t.own = true) : ScOn st act t := scF_on ht h _ _ _ (h.up ht h1 h2)

/-- A transition is taken. -/
theorem tkF_lg {st : List StP} (ht : Tr st) (t : TrQ) (p : Py) (hl : p.act.length = 26) (h : Lg st p.act) (hs : ScOn st p.act t) :
    Lg st (tkF st t p).act ∧ ∀ d : Nat, scOf st t = (d : Int) → ∀ j, ¬ (d < j ∧ j < endAt st d) → mem (tkF st t p).act j = mem p.act j := by
  have hlen := ht.wf.len
  have h0 := ht.s0
  have hact : ∀ left, (lvF st left st.length (rmF st left st.length p)).act.length = 26 := fun left => by rw [lvF_len, rmF_act]; exact hl
  have hm : ∀ left j, mem (lvF st left st.length (rmF st left st.length p)).act j = if j < st.length ∧ mem left j = true then false else mem p.act j := fun left j => by rw [lvF_mem, rmF_act]
  unfold tkF
  rcases hs with hs | ⟨d, hd, hdl, hk, hon⟩
  · have hf : fiOf st t = 0 := by unfold fiOf; rw [if_pos hs]
    have hL : lefB st p.act t = p.act := by unfold lefB; rw [if_pos hs]
    rw [hf, hL]
    have hE := enF_ent ht 26 0 ⟨t.ts, t.mark, -1⟩ { lvF st p.act st.length (rmF st p.act st.length p) with out := (lvF st p.act st.length (rmF st p.act st.length p)).out ++ bls t.acts } h0 (by omega) (hact _) (fun j j1 j2 => by
      show mem (lvF st p.act st.length (rmF st p.act st.length p)).act j = false
      rw [hm]
      have he := ht.te.e0
      by_cases e : mem p.act j = true
      · rw [if_pos ⟨by omega, e⟩]
      · rw [if_neg (fun x => e x.2)]; simpa using e)
    refine ⟨⟨hE.on, fun i hi => hE.loc i (Nat.zero_le _) (by rw [ht.te.e0]; exact hi)⟩, fun d hd => by omega⟩
  · have hin : d + 1 < endAt st d := by
      obtain ⟨x, hx⟩ : ∃ x, st[d]? = some x := ⟨_, List.getElem?_eq_getElem hdl⟩
      rw [endAt_at hx]
      exact ht.wf.inn d x hx (by rw [← kindAt_at hx, hk]; decide)
    have hne : ¬ scOf st t = -1 := by omega
    have hf : fiOf st t = inTo st d t.ts.toNat := by unfold fiOf; rw [if_neg hne, hd, Int.toNat_natCast]
    have hL : lefB st p.act t = belK p.act d (endAt st d) := by unfold lefB; rw [if_neg hne, hd, Int.toNat_natCast]; rfl
    rw [hf, hL]
    obtain ⟨c1, c2⟩ := inTo_ch ht hdl hin t.ts.toNat
    have hcr := ht.child c1 c2
    have hbc := ht.below c1 hcr.1 hcr.2
    have hed := ht.end_gt hdl
    have hin2 : ∀ j, d < j → j < endAt st d → mem (lvF st (belK p.act d (endAt st d)) st.length (rmF st (belK p.act d (endAt st d)) st.length p)).act j = false := by
      intro j j1 j2
      rw [hm]
      by_cases e : mem p.act j = true
      · rw [if_pos ⟨by omega, by rw [mem_bel _ _ _ _ (by omega)]; simp [j1, j2, e]⟩]
      · rw [if_neg]
        · simpa using e
        · rintro ⟨e1, e2⟩
          rw [mem_bel _ _ _ _ (by omega)] at e2
          simp [e] at e2
    have hout2 : ∀ j, ¬ (d < j ∧ j < endAt st d) → mem (lvF st (belK p.act d (endAt st d)) st.length (rmF st (belK p.act d (endAt st d)) st.length p)).act j = mem p.act j := by
      intro j hj
      rw [hm, if_neg]
      rintro ⟨e1, e2⟩
      rw [mem_bel _ _ _ _ (by omega)] at e2
      simp only [Bool.and_eq_true, decide_eq_true_eq] at e2
      exact hj e2.1
    have hL1 := hact (belK p.act d (endAt st d))
    generalize hP : ({ lvF st (belK p.act d (endAt st d)) st.length (rmF st (belK p.act d (endAt st d)) st.length p) with out := (lvF st (belK p.act d (endAt st d)) st.length (rmF st (belK p.act d (endAt st d)) st.length p)).out ++ bls t.acts } : Py) = P1
    have hPa : (lvF st (belK p.act d (endAt st d)) st.length (rmF st (belK p.act d (endAt st d)) st.length p)).act = P1.act := by rw [← hP]
    rw [hPa] at hin2 hout2 hL1
    clear hP hPa
    have hE := enF_ent ht 26 (inTo st d t.ts.toNat) ⟨t.ts, t.mark, -1⟩ P1 c1 (by omega) hL1 (fun j j1 j2 => hin2 j (by omega) (by omega))
    obtain ⟨o1, o2⟩ := Ent.or ht hdl c1 c2 (p := P1) (by rw [hout2 d (by omega)]; exact hon) hk hin2 hE
    generalize enF st 26 (inTo st d t.ts.toNat) ⟨t.ts, t.mark, -1⟩ P1 = q at *
    have hfr : ∀ j, ¬ (d < j ∧ j < endAt st d) → mem q.act j = mem p.act j := fun j hj => by
      rw [o1 j (by omega)]; exact hout2 j hj
    refine ⟨⟨by rw [hfr 0 (by omega)]; exact h.rt, fun i hi => ?_⟩, ?_⟩
    · by_cases hid : d ≤ i ∧ i < endAt st d
      · exact o2 i hid.1 hid.2
      · refine (h.loc i hi).congr (hfr i (by omega)) (fun k k1 k2 => hfr k ?_)
        rintro ⟨e1, e2⟩
        have h3 := ht.below k1 e1 e2
        have h4 := ht.child k1 k2
        omega
    · intro d' hd' j hj
      have : d' = d := by omega
      subst this
      exact hfr j hj

/-! What is taken. -/
theorem fpo_at {th : List TrH} {act : List Bool} {s : Nat} {ev : UInt8} (h : fpo th act s ev ≠ -1) : ∃ (n : Nat) (t : TrH), fpo th act s ev = (n : Int) ∧ th[n]? = some t ∧ t.q.own = s := by
  unfold fpo at h ⊢
  rcases firstB_spec (posB th act s ev) th.length with ⟨h1, -⟩ | ⟨k, h1, h2, h3, -⟩
  · rw [h1] at h; exact absurd rfl h
  · rw [h1]
    unfold posB at h3
    split at h3
    · rename_i t hx
      simp only [Bool.and_eq_true, beq_iff_eq] at h3
      exact ⟨k, t, rfl, hx, h3.1⟩
    · cases h3
/-- A called transition's state is active. -/
def OwnOn (st : List StP) (th : List TrH) (act : List Bool) (n : Nat) : Prop := ∃ t, th[n]? = some t ∧ t.q.own < st.length ∧ mem act t.q.own = true
theorem cfF_on {st : List StP} {th : List TrH} {act : List Bool} (ht : Tr st) (h : Lg st act) (ev : UInt8) : ∀ (f : Nat) (s : Int), (s = -1 ∨ ∃ j : Nat, s = (j : Int) ∧ j < st.length ∧ mem act j = true) → cfF st th act ev f s ≠ -1 → OwnOn st th act (cfF st th act ev f s).toNat
  | 0, s, _, hn => absurd rfl hn
  | f + 1, s, hs, hn => by
    unfold cfF at hn ⊢
    rcases hs with hs | ⟨j, rfl, h1, h2⟩
    · rw [if_pos hs] at hn; exact absurd rfl hn
    · rw [if_neg (by omega)] at hn ⊢
      rw [Int.toNat_natCast] at hn ⊢
      by_cases hc : fpo th act j ev ≠ -1
      · rw [if_pos hc]
        obtain ⟨n, t, e1, e2, e3⟩ := fpo_at hc
        rw [e1, Int.toNat_natCast]
        exact ⟨t, e2, by rw [e3]; exact h1, by rw [e3]; exact h2⟩
      · rw [if_neg hc] at hn ⊢
        exact cfF_on ht h ev f _ (h.up ht h1 h2) hn
theorem clK_on {st : List StP} {th : List TrH} {act : List Bool} (ht : Tr st) (h : Lg st act) (ev : UInt8) : ∀ k, k ≤ st.length → ∀ n ∈ clK st th act ev k, OwnOn st th act n
  | 0, _, n, hn => by simp [clK] at hn
  | k + 1, hk, n, hn => by
    rw [clK_succ] at hn
    unfold cl1 at hn
    split at hn
    · rename_i h1
      split at hn
      · rename_i h2
        rcases List.mem_append.1 hn with h3 | h3
        · exact clK_on ht h ev k (by omega) n h3
        · simp only [List.mem_cons, List.not_mem_nil, or_false] at h3
          subst h3
          exact cfF_on ht h ev _ _ (Or.inr ⟨k, rfl, by omega, h1.2⟩) h2.1
      · exact clK_on ht h ev k (by omega) n hn
    · exact clK_on ht h ev k (by omega) n hn
/-- What a transition leaves. -/
def lefN (st : List StP) (th : List TrH) (act : List Bool) (n : Nat) : List Bool := match th[n]? with | some t => lefB st act t.q | none => noSet
def Dis (st : List StP) (th : List TrH) (act : List Bool) (a b : Nat) : Prop := ∀ i, i < 26 → ¬ (mem (lefN st th act a) i = true ∧ mem (lefN st th act b) i = true)
theorem mts_no {l m : List Bool} (h : ¬ mts l m = true) : ∀ i, i < 26 → ¬ (mem l i = true ∧ mem m i = true) := by
  intro i hi
  unfold mts at h
  rcases firstB_spec (fun k => mem l k && mem m k) 26 with ⟨-, h2⟩ | ⟨k, h1, -⟩
  · have := h2 i hi
    rintro ⟨a, b⟩
    rw [a, b] at this; cases this
  · rw [h1] at h; exact absurd rfl h
theorem wcF_dis (st : List StP) (th : List TrH) (act : List Bool) : ∀ (ns : List Nat) (z : List Nat × List Bool), (∀ a ∈ z.1, ∀ i, i < 26 → mem (lefN st th act a) i = true → mem z.2 i = true) → z.1.Pairwise (Dis st th act) → (ns.foldl (wc1 st th act) z).1.Pairwise (Dis st th act)
  | [], z, h1, h2 => h2
  | k :: ns, z, h1, h2 => by
    rw [List.foldl_cons]
    unfold wc1
    split
    · rename_i t hx
      have hL : lefN st th act k = lefB st act t.q := by unfold lefN; rw [hx]
      split
      · exact wcF_dis st th act ns z h1 h2
      · rename_i hm
        have hd := mts_no hm
        refine wcF_dis st th act ns _ ?_ ?_
        · intro a ha i hi hmm
          show mem (unK z.2 (lefB st act t.q) 26) i = true
          rw [mem_unK _ _ _ _ hi, if_pos hi]
          rcases List.mem_append.1 ha with h3 | h3
          · rw [h1 a h3 i hi hmm]; rfl
          · simp only [List.mem_cons, List.not_mem_nil, or_false] at h3
            subst h3
            rw [hL] at hmm
            rw [hmm]; simp
        · rw [List.pairwise_append]
          refine ⟨h2, List.pairwise_singleton _ _, ?_⟩
          intro a ha b hb
          simp only [List.mem_cons, List.not_mem_nil, or_false] at hb
          subst hb
          rintro i hi ⟨x1, x2⟩
          rw [hL] at x2
          exact hd i hi ⟨x2, h1 a ha i hi x1⟩
    · exact wcF_dis st th act ns z h1 h2
/-- b's scope does not lie below a's. -/
def Apt (st : List StP) (th : List TrH) (a b : Nat) : Prop := ∀ ta tb, th[a]? = some ta → th[b]? = some tb → scOf st tb.q = -1 ∨ ∃ da db : Nat, scOf st ta.q = (da : Int) ∧ scOf st tb.q = (db : Int) ∧ ¬ (da < db ∧ db < endAt st da)
theorem apt_of {st : List StP} {th : List TrH} {act : List Bool} (ht : Tr st) (hl : act.length = 26) (h : Lg st act) {a b : Nat} (ha : OwnOn st th act a) (hb : OwnOn st th act b) (hd : Dis st th act a b) : Apt st th a b := by
  intro ta tb hta htb
  obtain ⟨ta', e1, e2, e3⟩ := ha
  obtain ⟨tb', f1, f2, f3⟩ := hb
  rw [hta] at e1
  rw [htb] at f1
  obtain rfl : ta = ta' := by injection e1
  obtain rfl : tb = tb' := by injection f1
  rcases scOn_of ht h f2 f3 with hsb | ⟨db, d1, d2, d3, d4⟩
  · exact Or.inl hsb
  · refine Or.inr ?_
    obtain ⟨c, c1, c2, c3, -⟩ := (h.loc db d2).one d4 d3
    have hcr := ht.child c1 c2
    have hc26 := mem_ge hl c3
    have hLb : mem (lefN st th act b) c = true := by
      unfold lefN lefB; rw [htb]
      simp only
      rw [if_neg (by omega), d1, Int.toNat_natCast]
      unfold actB
      rw [mem_bel _ _ _ _ hc26]; simp [hcr.1, hcr.2, c3]
    rcases scOn_of ht h e2 e3 with hsa | ⟨da, g1, g2, g3, g4⟩
    · exfalso
      refine hd c hc26 ⟨?_, hLb⟩
      unfold lefN lefB; rw [hta]
      simp only
      rw [if_pos hsa]; exact c3
    · refine ⟨da, db, g1, d1, ?_⟩
      rintro ⟨x1, x2⟩
      have hbb := ht.below d2 x1 x2
      refine hd c hc26 ⟨?_, hLb⟩
      unfold lefN lefB; rw [hta]
      simp only
      rw [if_neg (by omega), g1, Int.toNat_natCast]
      unfold actB
      rw [mem_bel _ _ _ _ hc26]
      have h5 : da < c := by omega
      have h6 : c < endAt st da := by omega
      simp [h5, h6, c3]
theorem fold_lg {st : List StP} {th : List TrH} (ht : Tr st) : ∀ (ns : List Nat) (p : Py), p.act.length = 26 → Lg st p.act → (∀ n ∈ ns, ∀ t, th[n]? = some t → ScOn st p.act t.q) → ns.Pairwise (Apt st th) → (ns.foldl (tk1 st th) p).act.length = 26 ∧ Lg st (ns.foldl (tk1 st th) p).act
  | [], p, hl, h, _, _ => ⟨hl, h⟩
  | n :: ns, p, hl, h, hs, hp => by
    rw [List.foldl_cons]
    rw [List.pairwise_cons] at hp
    cases hx : th[n]? with
    | none =>
      have e : tk1 st th p n = p := by unfold tk1; rw [hx]
      rw [e]
      exact fold_lg ht ns p hl h (fun m hm => hs m (by simp [hm])) hp.2
    | some t =>
      have e : tk1 st th p n = tkF st t.q p := by unfold tk1; rw [hx]
      rw [e]
      obtain ⟨h1, h2⟩ := tkF_lg ht t.q p hl h (hs n (by simp) t hx)
      refine fold_lg ht ns _ (by rw [tkF_alen]; exact hl) h1 ?_ hp.2
      intro m hm u hu
      have hold := hs m (by simp [hm]) u hu
      rcases hp.1 m hm t u hx hu with hc | ⟨da, db, q1, q2, q3⟩
      · exact Or.inl hc
      · rcases hold with hc | ⟨d, d1, d2, d3, d4⟩
        · exact Or.inl hc
        · refine Or.inr ⟨d, d1, d2, d3, ?_⟩
          have : d = db := by omega
          subst this
          rw [h2 da q1 d q3]; exact d4
theorem pairwise_impl {R S : Nat → Nat → Prop} : ∀ (l : List Nat), l.Pairwise R → (∀ a ∈ l, ∀ b ∈ l, R a b → S a b) → l.Pairwise S
  | [], _, _ => List.Pairwise.nil
  | a :: l, h, hi => by
    rw [List.pairwise_cons] at h ⊢
    exact ⟨fun b hb => hi a (by simp) b (by simp [hb]) (h.1 b hb), pairwise_impl l h.2 (fun x hx y hy => hi x (by simp [hx]) y (by simp [hy]))⟩
theorem evStep_lg {st : List StP} (th : List TrH) (ht : Tr st) (p : Py) (ev : UInt8) (hl : p.act.length = 26) (h : Lg st p.act) : (evStep st th p ev).act.length = 26 ∧ Lg st (evStep st th p ev).act := by
  unfold evStep spF
  have hin : ∀ n ∈ tkn st th p.act ev, OwnOn st th p.act n := by
    intro n hn
    rcases (wcF_in st th p.act (clL st th p.act ev) ([], noSet)).1 n hn with h3 | h3
    · simp at h3
    · exact clK_on ht h ev _ (Nat.le_refl _) n h3
  have hpw : (tkn st th p.act ev).Pairwise (Dis st th p.act) := wcF_dis st th p.act _ ([], noSet) (fun a ha => by simp at ha) List.Pairwise.nil
  refine fold_lg ht _ _ hl h ?_ (pairwise_impl _ hpw (fun a ha b hb hd => apt_of ht hl h (hin a ha) (hin b hb) hd))
  intro n hn t hx
  obtain ⟨t', e1, e2, e3⟩ := hin n hn
  rw [hx] at e1
  obtain rfl : t = t' := by injection e1
  exact scOn_of ht h e2 e3
theorem plK_lg {st : List StP} (th : List TrH) (ht : Tr st) (es : ByteArray) : ∀ k, (plK st th es k).act.length = 26 ∧ Lg st (plK st th es k).act
  | 0 => by
    have hlen := ht.wf.len
    have hE := enF_ent ht 26 0 Am.free py0 ht.s0 (by omega) rfl (fun j _ _ => mem_no j)
    exact ⟨hE.len, hE.on, fun i hi => hE.loc i (Nat.zero_le _) (by rw [ht.te.e0]; exact hi)⟩
  | k + 1 => evStep_lg th ht _ _ (plK_lg th ht es k).1 (plK_lg th ht es k).2
/-- The active states of a right chart, whatever happens. -/
theorem un_lg {s : ByteArray} (h : (unE s).1 = 0) (es : ByteArray) : Tr (unSt s) ∧ (plQ s es).act.length = 26 ∧ Lg (unSt s) (plQ s es).act := by
  have hp := plan_ok s h
  have ht : Tr (unSt s) := ⟨hp.wf, un_tre h, hp.s0⟩
  exact ⟨ht, plK_lg (th0 s) ht es es.size⟩
end Go.Proofs.Ytmolmbeeoecnfaa
