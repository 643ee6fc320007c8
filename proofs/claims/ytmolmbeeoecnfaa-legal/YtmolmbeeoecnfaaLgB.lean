/- Own work: the active states fit together: entering. -/
import Derived.Test.YtmolmbeeoecnfaaLgA
namespace Go.Proofs.Ytmolmbeeoecnfaa
open Go.RowKit Go.BigFrame
set_option linter.unusedVariables false
set_option linter.unusedSimpArgs false

/-- The plan's numbers, gathered. -/
structure Tr (st : List StP) : Prop where
  wf : Wf st
  te : Tre st
  s0 : 0 < st.length
section
variable {st : List StP} (ht : Tr st)
include ht
theorem Tr.end_gt {k : Nat} (hk : k < st.length) : k < endAt st k ∧ endAt st k ≤ st.length := by
  obtain ⟨x, hx⟩ : ∃ x, st[k]? = some x := ⟨_, List.getElem?_eq_getElem hk⟩
  rw [endAt_at hx]; exact ht.wf.en k x hx
theorem Tr.out_lt {k : Nat} (hk : k < st.length) : -1 ≤ outAt st k ∧ outAt st k < (k : Int) := by
  obtain ⟨x, hx⟩ : ∃ x, st[k]? = some x := ⟨_, List.getElem?_eq_getElem hk⟩
  rw [outAt_at hx]; exact ht.wf.ou k x hx
/-- Below o: within its range, and within o or something below it. -/
theorem Tr.below {k o : Nat} (hk : k < st.length) (h1 : o < k) (h2 : k < endAt st o) : endAt st k ≤ endAt st o ∧ (o : Int) ≤ outAt st k :=
  (ht.te.fo k (Nat.zero_le _) hk).2.2 o (Nat.zero_le _) h1 h2
/-- A child lies in its parent's range. -/
theorem Tr.child {k j : Nat} (hk : k < st.length) (h : outAt st k = (j : Int)) : j < k ∧ k < endAt st j := by
  have h1 := (ht.out_lt hk).2
  rcases (ht.te.fo k (Nat.zero_le _) hk).2.1 with h2 | ⟨i, -, h2, h3⟩
  · omega
  · have : i = j := by omega
    subst this
    exact ⟨by omega, h3⟩
/-- The first state below one that has any is its child. -/
theorem Tr.fst {o : Nat} (ho : o < st.length) (h : o + 1 < endAt st o) : outAt st (o + 1) = (o : Int) := by
  have h1 := ht.end_gt ho
  have h2 := ht.below (k := o + 1) (by omega) (by omega) h
  have h3 := ht.out_lt (k := o + 1) (by omega)
  omega
/-- Every state below o is in the range of one of its children. -/
theorem Tr.via {o : Nat} (ho : o < st.length) : ∀ (k : Nat), o < k → k < endAt st o → ∃ c, outAt st c = (o : Int) ∧ o < c ∧ c ≤ k ∧ k < endAt st c := by
  intro k
  induction k using Nat.strongRecOn with
  | _ k ih =>
    intro h1 h2
    have he := ht.end_gt ho
    have hk : k < st.length := by omega
    have hb := ht.below hk h1 h2
    have hl := ht.out_lt hk
    by_cases e : outAt st k = (o : Int)
    · exact ⟨k, e, h1, Nat.le_refl _, (ht.end_gt hk).1⟩
    · obtain ⟨j, hj⟩ : ∃ j : Nat, outAt st k = (j : Int) := ⟨(outAt st k).toNat, by omega⟩
      have hc := ht.child hk hj
      obtain ⟨c, c1, c2, c3, c4⟩ := ih j (by omega) (by omega) (by omega)
      refine ⟨c, c1, c2, by omega, ?_⟩
      by_cases ecj : c = j
      · subst ecj; exact hc.2
      · have := ht.below (k := j) (o := c) (by omega) (by omega) c4
        omega
/-- Two children's ranges are apart. -/
theorem Tr.apart {o c d : Nat} (hc : c < st.length) (hd : d < st.length) (h1 : outAt st c = (o : Int)) (h2 : outAt st d = (o : Int)) (h : c < d) : endAt st c ≤ d := by
  by_cases e : d < endAt st c
  · have h3 := ht.below hd h e
    have h4 := ht.child hc h1
    omega
  · omega
end

/-- At state i the active states fit together. -/
structure Loc (st : List StP) (act : List Bool) (i : Nat) : Prop where
  off : mem act i = false → ∀ k, k < st.length → outAt st k = (i : Int) → mem act k = false
  one : mem act i = true → kindAt st i = 1 → ∃ c, c < st.length ∧ outAt st c = (i : Int) ∧ mem act c = true ∧ ∀ k, k < st.length → outAt st k = (i : Int) → mem act k = true → k = c
  all : mem act i = true → kindAt st i = 2 → ∀ k, k < st.length → outAt st k = (i : Int) → mem act k = true
/-- All that stands at i is given by what stands at i and its children. -/
theorem Loc.congr {st : List StP} {a b : List Bool} {i : Nat} (h : Loc st a i) (hi : mem b i = mem a i) (hk : ∀ k, k < st.length → outAt st k = (i : Int) → mem b k = mem a k) : Loc st b i where
  off := fun h1 k k1 k2 => by rw [hk k k1 k2]; exact h.off (by rw [← hi]; exact h1) k k1 k2
  one := fun h1 h2 => by
    obtain ⟨c, c1, c2, c3, c4⟩ := h.one (by rw [← hi]; exact h1) h2
    exact ⟨c, c1, c2, by rw [hk c c1 c2]; exact c3, fun k k1 k2 k3 => c4 k k1 k2 (by rw [← hk k k1 k2]; exact k3)⟩
  all := fun h1 h2 k k1 k2 => by rw [hk k k1 k2]; exact h.all (by rw [← hi]; exact h1) h2 k k1 k2
theorem mem_set_self {l : List Bool} {k : Nat} (h : k < l.length) (v : Bool) : mem (l.set k v) k = v := by rw [mem_set, if_pos ⟨rfl, h⟩]
theorem mem_set_ne {l : List Bool} {k j : Nat} (h : k ≠ j) (v : Bool) : mem (l.set k v) j = mem l j := by rw [mem_set, if_neg (fun e => h e.1)]

/-- What entering s leaves: nothing changes outside its range; within it all fits together and s is active. -/
structure Ent (st : List StP) (s : Nat) (p q : Py) : Prop where
  len : q.act.length = p.act.length
  mm : q.mm = p.mm
  out : ∀ j, (j < s ∨ endAt st s ≤ j) → mem q.act j = mem p.act j
  on : mem q.act s = true
  loc : ∀ i, s ≤ i → i < endAt st s → Loc st q.act i

theorem inAm_ch {st : List StP} (ht : Tr st) {s : Nat} (hs : s < st.length) (hk : s + 1 < endAt st s) (l : List Bool) : inAm st s l < st.length ∧ outAt st (inAm st s l) = (s : Int) := by
  have he := ht.end_gt hs
  unfold inAm
  rcases firstB_spec (inA st s l) (endAt st s) with ⟨h1, -⟩ | ⟨k, h1, h2, h3, -⟩
  · rw [h1]; exact ⟨by simp only; omega, ht.fst hs hk⟩
  · rw [h1]
    unfold inA at h3
    simp only [Bool.and_eq_true, beq_iff_eq, decide_eq_true_eq] at h3
    exact ⟨by simp only; omega, h3.2.1⟩
theorem inTo_ch {st : List StP} (ht : Tr st) {s : Nat} (hs : s < st.length) (hk : s + 1 < endAt st s) (t : Nat) : inTo st s t < st.length ∧ outAt st (inTo st s t) = (s : Int) := by
  have he := ht.end_gt hs
  unfold inTo
  rcases firstB_spec (inT st s t) (endAt st s) with ⟨h1, -⟩ | ⟨k, h1, h2, h3, -⟩
  · rw [h1]; exact ⟨by simp only; omega, ht.fst hs hk⟩
  · rw [h1]
    unfold inT at h3
    simp only [Bool.and_eq_true, beq_iff_eq, decide_eq_true_eq] at h3
    exact ⟨by simp only; omega, h3.2.1⟩
theorem chP_ch {st : List StP} (ht : Tr st) {s : Nat} (hs : s < st.length) (hk : s + 1 < endAt st s) (mm : List (List Bool)) (a : Am) : (chP st mm s a).1 < st.length ∧ outAt st (chP st mm s a).1 = (s : Int) := by
  have he := ht.end_gt hs
  have hf : s + 1 < st.length ∧ outAt st (s + 1) = (s : Int) := ⟨by omega, ht.fst hs hk⟩
  unfold chP
  split
  · exact inAm_ch ht hs hk _
  · split
    · exact hf
    · split
      · exact inTo_ch ht hs hk _
      · split
        · exact hf
        · split
          · exact inAm_ch ht hs hk _
          · exact inAm_ch ht hs hk _

/-- One child of s is entered, nothing below s was active. -/
theorem Ent.or {st : List StP} (ht : Tr st) {s c : Nat} {p q : Py} (hs : s < st.length) (hc : c < st.length) (hoc : outAt st c = (s : Int)) (hon : mem p.act s = true) (hk : kindAt st s = 1) (hno : ∀ j, s < j → j < endAt st s → mem p.act j = false) (h : Ent st c p q) :
    (∀ j, (j ≤ s ∨ endAt st s ≤ j) → mem q.act j = mem p.act j) ∧ ∀ i, s ≤ i → i < endAt st s → Loc st q.act i := by
  have hsc := ht.child hc hoc
  have hbc := ht.below hc hsc.1 hsc.2
  have hec := ht.end_gt hc
  have hes := ht.end_gt hs
  refine ⟨fun j hj => h.out j (by omega), ?_⟩
  intro i h1 h2
  have hqs : mem q.act s = true := by rw [h.out s (Or.inl hsc.1)]; exact hon
  by_cases hin : c ≤ i ∧ i < endAt st c
  · exact h.loc i hin.1 hin.2
  · by_cases his : i = s
    · subst his
      refine ⟨fun e => (by rw [hqs] at e; cases e), fun _ _ => ⟨c, hc, hoc, h.on, ?_⟩, fun _ e => (by rw [hk] at e; cases e)⟩
      intro k k1 k2 k3
      by_cases hkc : k = c
      · exact hkc
      · exfalso
        have hkr := ht.child k1 k2
        have : mem q.act k = mem p.act k := h.out k (by
          rcases Nat.lt_or_ge k c with e | e
          · exact Or.inl e
          · exact Or.inr (ht.apart hc k1 hoc k2 (by omega)))
        rw [this, hno k hkr.1 hkr.2] at k3
        cases k3
    · have hout : mem q.act i = false := by rw [h.out i (by omega)]; exact hno i (by omega) h2
      refine ⟨fun _ k k1 k2 => ?_, fun e => (by rw [hout] at e; cases e), fun e => (by rw [hout] at e; cases e)⟩
      have hkr := ht.child k1 k2
      have hbi := ht.below (k := i) (o := s) (by omega) (by omega) h2
      have hkn : ¬ (c ≤ k ∧ k < endAt st c) := by
        rintro ⟨e1, e2⟩
        by_cases hkc : k = c
        · subst hkc; omega
        · have := ht.below (k := k) (o := c) k1 (by omega) e2
          omega
      rw [h.out k (by omega)]
      exact hno k (by omega) (by omega)

theorem enF_ent {st : List StP} (ht : Tr st) : ∀ (f s : Nat) (a : Am) (p : Py), s < st.length → st.length - s ≤ f → p.act.length = 26 → (∀ j, s ≤ j → j < endAt st s → mem p.act j = false) → Ent st s p (enF st f s a p)
  | 0, s, a, p, hs, hf, hl, hno => by omega
  | f + 1, s, a, p, hs, hf, hl, hno => by
    obtain ⟨x, hx⟩ : ∃ x, st[s]? = some x := ⟨_, List.getElem?_eq_getElem hs⟩
    have hes := ht.end_gt hs
    have hlen := ht.wf.len
    have hkx : kindAt st s = x.kind := kindAt_at hx
    have hex : endAt st s = x.end_ := endAt_at hx
    have hP1 : ∀ o, ({ p with act := p.act.set s true, out := o } : Py).act.length = 26 := fun o => by show (p.act.set s true).length = 26; rw [List.length_set]; exact hl
    have hon : mem (p.act.set s true) s = true := mem_set_self (by omega) true
    have hne : ∀ j, j ≠ s → mem (p.act.set s true) j = mem p.act j := fun j hj => mem_set_ne (fun e => hj e.symm) true
    have hno1 : ∀ j, s < j → j < endAt st s → mem (p.act.set s true) j = false := fun j h1 h2 => by rw [hne j (by omega)]; exact hno j (by omega) h2
    by_cases h2 : x.kind = 2
    · rw [enF_and hx h2]
      -- the loop
      have hloop : ∀ (n i : Nat) (q : Py), i + n = endAt st s → s < i → q.act.length = 26 → q.mm = p.mm → (∀ j, (j < s ∨ endAt st s ≤ j) → mem q.act j = mem p.act j) → mem q.act s = true →
          (∀ c, c < i → outAt st c = (s : Int) → mem q.act c = true ∧ ∀ k, c ≤ k → k < endAt st c → Loc st q.act k) → (∀ c, i ≤ c → c < st.length → outAt st c = (s : Int) → ∀ k, c ≤ k → k < endAt st c → mem q.act k = false) →
          Ent st s p (itF (fun i q => if outAt st i = (s : Int) then enF st f i a q else q) n i q) := by
        intro n
        induction n with
        | zero =>
          intro i q hi hsi ql qm qo qs qd qn
          show Ent st s p q
          have hdone : ∀ c, c < st.length → outAt st c = (s : Int) → mem q.act c = true ∧ ∀ k, c ≤ k → k < endAt st c → Loc st q.act k := fun c c1 c2 => qd c (by have := ht.child c1 c2; omega) c2
          refine ⟨by omega, qm, qo, qs, ?_⟩
          intro k k1 k2
          by_cases hks : k = s
          · subst hks
            exact ⟨fun e => (by rw [qs] at e; cases e), fun _ e => (by omega), fun _ _ c c1 c2 => (hdone c c1 c2).1⟩
          · obtain ⟨c, c1, c2, c3, c4⟩ := ht.via hs k (by omega) k2
            exact (hdone c (by omega) c1).2 k c3 c4
        | succ n ih =>
          intro i q hi hsi ql qm qo qs qd qn
          show Ent st s p (itF _ n (i + 1) (if outAt st i = (s : Int) then enF st f i a q else q))
          have hil : i < st.length := by omega
          by_cases ho : outAt st i = (s : Int)
          · rw [if_pos ho]
            have hE := enF_ent ht f i a q hil (by omega) ql (fun j j1 j2 => qn i (Nat.le_refl _) hil ho j j1 j2)
            have hir := ht.child hil ho
            have hbi := ht.below hil hir.1 hir.2
            have hei := ht.end_gt hil
            refine ih (i + 1) _ (by omega) (by omega) (by rw [hE.len]; exact ql) (hE.mm.trans qm) ?_ ?_ ?_ ?_
            · intro j hj; rw [hE.out j (by omega)]; exact qo j hj
            · rw [hE.out s (Or.inl hir.1)]; exact qs
            · intro c c1 c2
              by_cases hci : c = i
              · subst hci; exact ⟨hE.on, hE.loc⟩
              · have hcl : c < st.length := by omega
                have hap := ht.apart hcl hil c2 ho (by omega)
                have hcc := ht.end_gt hcl
                obtain ⟨d1, d2⟩ := qd c (by omega) c2
                refine ⟨by rw [hE.out c (Or.inl (by omega))]; exact d1, fun k k1 k2 => ?_⟩
                refine (d2 k k1 k2).congr (hE.out k (Or.inl (by omega))) (fun m m1 m2 => ?_)
                have hm := ht.child m1 m2
                have : endAt st k ≤ endAt st c := by
                  by_cases e : k = c
                  · rw [e]; exact Nat.le_refl _
                  · exact (ht.below (k := k) (o := c) (by omega) (by omega) k2).1
                exact hE.out m (Or.inl (by omega))
            · intro c c1 c2 c3 k k1 k2
              have hap := ht.apart hil c2 ho c3 (by omega)
              rw [hE.out k (Or.inr (by omega))]
              exact qn c (by omega) c2 c3 k k1 k2
          · rw [if_neg ho]
            refine ih (i + 1) q (by omega) (by omega) ql qm qo qs ?_ ?_
            · intro c c1 c2
              by_cases hci : c = i
              · subst hci; exact absurd c2 ho
              · exact qd c (by omega) c2
            · intro c c1 c2 c3; exact qn c (by omega) c2 c3
      refine hloop (x.end_ - (s + 1)) (s + 1) { p with act := p.act.set s true, out := p.out ++ bls x.enter } (by omega) (by omega) (hP1 _) rfl (fun j hj => hne j (by omega)) hon ?_ ?_
      · intro c c1 c2
        have := ht.child (k := c) (by omega) c2
        omega
      · intro c c1 c2 c3 k k1 k2
        have hcr := ht.child c2 c3
        have hbc := ht.below c2 hcr.1 hcr.2
        exact hno1 k (by omega) (by omega)
    · by_cases h3 : x.kind = 1
      · rw [enF_or hx h3]
        have hin : s + 1 < endAt st s := by rw [hex]; exact ht.wf.inn s x hx (by omega)
        obtain ⟨c1, c2⟩ := chP_ch ht hs hin p.mm a
        have hcr := ht.child c1 c2
        have hbc := ht.below c1 hcr.1 hcr.2
        have hE := enF_ent ht f (chP st p.mm s a).1 (chP st p.mm s a).2 { p with act := p.act.set s true, out := p.out ++ bls x.enter } c1 (by omega) (hP1 _) (fun j j1 j2 => hno1 j (by omega) (by omega))
        obtain ⟨o1, o2⟩ := Ent.or ht hs c1 c2 (p := { p with act := p.act.set s true, out := p.out ++ bls x.enter }) hon (by rw [hkx]; exact h3) hno1 hE
        refine ⟨by rw [hE.len, hl]; exact hP1 _, hE.mm, fun j hj => ?_, ?_, o2⟩
        · rw [o1 j (by omega)]; exact hne j (by omega)
        · rw [o1 s (Or.inl (Nat.le_refl _))]; exact hon
      · rw [enF_leaf hx h2 h3]
        refine ⟨by rw [hl]; exact hP1 _, rfl, fun j hj => hne j (by omega), hon, ?_⟩
        intro i i1 i2
        by_cases his : i = s
        · subst his
          exact ⟨fun e => (by rw [hon] at e; cases e), fun _ e => (by omega), fun _ e => (by omega)⟩
        · have hout := hno1 i (by omega) i2
          refine ⟨fun _ k k1 k2 => ?_, fun e => (by rw [hout] at e; cases e), fun e => (by rw [hout] at e; cases e)⟩
          have hkr := ht.child k1 k2
          have hbi := ht.below (k := i) (o := s) (by omega) (by omega) i2
          exact hno1 k (by omega) (by omega)
end Go.Proofs.Ytmolmbeeoecnfaa
