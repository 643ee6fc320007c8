/- Own work: PgSZ. -/
import Derived.Test.YtmolmbeeoecnfaaGreatDoorF44
import Derived.Test.YtmolmbeeoecnfaaGreatDoorF46
/- Own work: plain facts for the document's game: the marks; what is recalled. -/
namespace Go.Proofs.YtmolmbeeoecnfaaGreatDoor
open Go.RowKit Go.BigFrame
set_option linter.unusedVariables false
set_option linter.unusedSimpArgs false


def WhS (st : List StP) : Prop := ∀ x ∈ st, x.wh = false ∧ x.rem = false
theorem WhS.modify {st : List StP} (h : WhS st) (i : Nat) (g : StP → StP) (hg : ∀ x, (g x).wh = x.wh ∧ (g x).rem = x.rem) : WhS (st.modify i g) := by
 intro x hx
 obtain ⟨k, hk⟩ := List.mem_iff_getElem?.1 hx
 rw [List.getElem?_modify] at hk
 cases h6 : st[k]? with
 | none => rw [h6] at hk; simp at hk
 | some z =>
  have hz := h z (List.mem_of_getElem? h6)
  rw [h6] at hk
  by_cases hik : i = k
  ·simp only [hik, if_pos, Option.map_eq_map, Option.map_some, Option.some.injEq] at hk
   rw [← hk, (hg z).1, (hg z).2]; exact hz
  ·simp [hik] at hk
   rw [← hk]; exact hz
theorem WhS.rtF {s : ByteArray} {own : Nat} : ∀ (f : Nat) (r : Rn), WhS r.st → WhS (rtF s own f r).2.st
 | 0, r, h => h
 | f + 1, r, h => by
  simp only [Proofs.YtmolmbeeoecnfaaGreatDoor.rtF]
  split
  ·split
   ·exact WhS.rtF f _ h
   ·exact h
  ·exact h
theorem WhS.riF {s : ByteArray} {g : Rn → Bool × Rn} (hg : ∀ q : Rn, WhS q.st → WhS (g q).2.st) : ∀ (f n : Nat) (r : Rn), WhS r.st → WhS (riF s g f n r).2.2.st
 | 0, n, r, h => h
 | f + 1, n, r, h => by
  simp only [Proofs.YtmolmbeeoecnfaaGreatDoor.riF]
  split
  ·split
   ·exact WhS.riF hg f _ _ (hg r h)
   ·exact hg r h
  ·exact h
theorem WhS.riP {s : ByteArray} {g : Rn → Bool × Rn} (hg : ∀ q : Rn, WhS q.st → WhS (g q).2.st) (fin : UInt8) (least : Nat) (r : Rn) (h : WhS r.st) : WhS (riP s g fin least r).2.st := by
 have h1 : WhS (riL s g 0 { r with i := r.i + 1 }).2.2.st := WhS.riF hg _ 0 { r with i := r.i + 1 } h
 unfold Proofs.YtmolmbeeoecnfaaGreatDoor.riP
 split
 ·exact h1
 ·split
  ·exact h1
  ·exact h1
theorem WhS.rsF {s : ByteArray} : ∀ (f : Nat) (r : Rn) (outer : Int) (depth : Nat), WhS r.st → WhS (rsF s f r outer depth).2.st
  | 0, r, _, _, h => h
  | f + 1, r, outer, depth, h => by
    have hp1 : WhS (rs1 s r outer depth).st := by
      intro x hx
      rcases List.mem_append.1 hx with hx | hx
      · exact h x hx
      · simp only [List.mem_cons, List.not_mem_nil, or_false] at hx
        rw [hx]; exact ⟨rfl, rfl⟩
    simp only [Proofs.YtmolmbeeoecnfaaGreatDoor.rsF]
    split
    · exact h
    · split
      · exact hp1
      · split
        · exact hp1
        · have h3 : WhS (rs3 s r.st.length (rs1 s r outer depth)).st :=
            (hp1.modify r.st.length (fun x => { x with enter := abS s 43 (r.i + 1) }) (fun x => ⟨rfl, rfl⟩)).modify r.st.length (fun x => { x with leave := abS s 45 (abI s 43 (r.i + 1)) }) (fun x => ⟨rfl, rfl⟩)
          have hk : ∀ kk, WhS (setKP (rs3 s r.st.length (rs1 s r outer depth)) r.st.length kk).st := fun kk => h3.modify r.st.length (fun x => { x with kind := kk }) (fun x => ⟨rfl, rfl⟩)
          have h4 : WhS (rs4 s (fun q => Proofs.YtmolmbeeoecnfaaGreatDoor.rsF s f q (r.st.length : Nat) (depth + 1)) r.st.length (rs3 s r.st.length (rs1 s r outer depth))).2.st := by
            unfold rs4
            split
            · exact WhS.riP (fun q hq => WhS.rsF f q _ _ hq) _ _ _ (hk 1)
            · split
              · exact WhS.riP (fun q hq => WhS.rsF f q _ _ hq) _ _ _ (hk 2)
              · exact h3
          generalize rs4 s (fun q => Proofs.YtmolmbeeoecnfaaGreatDoor.rsF s f q (r.st.length : Nat) (depth + 1)) r.st.length (rs3 s r.st.length (rs1 s r outer depth)) = q4 at *
          unfold rs5
          split
          · exact h4
          · exact WhS.rtF _ _ (h4.modify r.st.length (fun x => { x with end_ := q4.2.st.length }) (fun x => ⟨rfl, rfl⟩))
theorem mark_at : ∀ (tr : List TrQ) (st : List StP) (k : Nat) (x y : StP), (tr.foldl mark1 st)[k]? = some x → st[k]? = some y →
  x.wh = (y.wh || tr.any fun t => t.mark == 42 && t.ts.toNat == k) ∧ x.rem = (y.rem || tr.any fun t => !(t.mark == 0) && t.ts.toNat == k)
 | [], st, k, x, y, hx, hy => by
  rw [List.foldl_nil, hy] at hx
  injection hx with hx
  subst hx
  simp
 | t :: tr, st, k, x, y, hx, hy => by
  rw [List.foldl_cons] at hx
  have h1 : ∃ z, (mark1 st t)[k]? = some z ∧ z.wh = (y.wh || (t.mark == 42 && t.ts.toNat == k)) ∧ z.rem = (y.rem || (!(t.mark == 0) && t.ts.toNat == k)) := by
   unfold mark1
   by_cases c1 : t.mark = 0
   ·rw [if_pos c1]
    exact ⟨y, hy, by simp [c1], by simp [c1]⟩
   ·rw [if_neg c1]
    by_cases c2 : t.mark = 42
    ·rw [if_pos c2]
     by_cases e : t.ts.toNat = k
     ·refine ⟨setWh (setRem y), ?_, by simp [setWh, c2, e], by simp [setWh, setRem, c1, e]⟩
      rw [List.getElem?_modify, List.getElem?_modify, hy]
      simp [e]
     ·refine ⟨y, ?_, by simp [e], by simp [e]⟩
      rw [List.getElem?_modify, List.getElem?_modify, hy]
      simp [e]
    ·rw [if_neg c2]
     by_cases e : t.ts.toNat = k
     ·refine ⟨setRem y, ?_, by simp [setRem, c2], by simp [setRem, c1, e]⟩
      rw [List.getElem?_modify, hy]
      simp [e]
     ·refine ⟨y, ?_, by simp [e], by simp [e]⟩
      rw [List.getElem?_modify, hy]
      simp [e]
  obtain ⟨z, z1, z2, z3⟩ := h1
  obtain ⟨r1, r2⟩ := mark_at tr (mark1 st t) k x z hx z1
  rw [r1, r2, z2, z3, List.any_cons, List.any_cons]
  exact ⟨Bool.or_assoc _ _ _, Bool.or_assoc _ _ _⟩

def MkS (r : Rn) : Prop := ∀ t ∈ r.tr, t.mark = 0 ∨ t.mark = 42 ∨ t.mark = 126
theorem rmC_mk (s : ByteArray) (i : Nat) : rmC s i = 0 ∨ rmC s i = 42 ∨ rmC s i = 126 := by
 unfold rmC
 split
 ·rename_i h
  unfold isMk at h
  simp only [Bool.or_eq_true, beq_iff_eq] at h
  rcases h with h | h
  ·exact Or.inr (Or.inr h)
  ·exact Or.inr (Or.inl h)
 ·exact Or.inl rfl
theorem rtP_mk (s : ByteArray) (own i : Nat) : (rtP s own i).2.2.mark = 0 ∨ (rtP s own i).2.2.mark = 42 ∨ (rtP s own i).2.2.mark = 126 := by
 unfold rtP
 simp only
 split
 ·exact Or.inl rfl
 ·split
  ·exact Or.inl rfl
  ·split
   ·exact Or.inl rfl
   ·split
    ·exact Or.inl rfl
    ·exact rmC_mk _ _
theorem MkS.rtF {s : ByteArray} {own : Nat} : ∀ (f : Nat) (r : Rn), MkS r → MkS (rtF s own f r).2
 | 0, r, h => h
 | f + 1, r, h => by
  have hp : MkS { r with i := (rtP s own r.i).2.1, tr := r.tr ++ [(rtP s own r.i).2.2] } := by
   intro t ht
   rcases List.mem_append.1 ht with ht | ht
   ·exact h t ht
   ·simp only [List.mem_cons, List.not_mem_nil, or_false] at ht
    rw [ht]; exact rtP_mk s own r.i
  simp only [Proofs.YtmolmbeeoecnfaaGreatDoor.rtF]
  split
  ·split
   ·exact MkS.rtF f _ hp
   ·exact hp
  ·exact h
theorem MkS.riF {s : ByteArray} {g : Rn → Bool × Rn} (hg : ∀ q, MkS q → MkS (g q).2) : ∀ (f n : Nat) (r : Rn), MkS r → MkS (riF s g f n r).2.2
 | 0, n, r, h => h
 | f + 1, n, r, h => by
  simp only [Proofs.YtmolmbeeoecnfaaGreatDoor.riF]
  split
  ·split
   ·exact MkS.riF hg f _ _ (hg r h)
   ·exact hg r h
  ·exact h
theorem MkS.riP {s : ByteArray} {g : Rn → Bool × Rn} (hg : ∀ q, MkS q → MkS (g q).2) (fin : UInt8) (least : Nat) (r : Rn) (h : MkS r) : MkS (riP s g fin least r).2 := by
 have h1 : MkS (riL s g 0 { r with i := r.i + 1 }).2.2 := MkS.riF hg _ 0 { r with i := r.i + 1 } h
 unfold Proofs.YtmolmbeeoecnfaaGreatDoor.riP
 split
 ·exact h1
 ·split
  ·exact h1
  ·exact h1
theorem MkS.rsF {s : ByteArray} : ∀ (f : Nat) (r : Rn) (outer : Int) (depth : Nat), MkS r → MkS (rsF s f r outer depth).2
 | 0, r, _, _, h => h
 | f + 1, r, outer, depth, h => by
  simp only [Proofs.YtmolmbeeoecnfaaGreatDoor.rsF]
  split
  ·exact h
  ·split
   ·exact h
   ·split
    ·exact h
    ·have h3 : MkS (rs3 s r.st.length (rs1 s r outer depth)) := h
     have h4 : MkS (rs4 s (fun q => Proofs.YtmolmbeeoecnfaaGreatDoor.rsF s f q (r.st.length : Nat) (depth + 1)) r.st.length (rs3 s r.st.length (rs1 s r outer depth))).2 := by
      unfold rs4
      split
      ·exact MkS.riP (fun q hq => MkS.rsF f q _ _ hq) _ _ _ h3
      ·split
       ·exact MkS.riP (fun q hq => MkS.rsF f q _ _ hq) _ _ _ h3
       ·exact h3
     generalize rs4 s (fun q => Proofs.YtmolmbeeoecnfaaGreatDoor.rsF s f q (r.st.length : Nat) (depth + 1)) r.st.length (rs3 s r.st.length (rs1 s r outer depth)) = q4 at *
     unfold rs5
     split
     ·exact h4
     ·exact MkS.rtF _ _ (show MkS (setEP q4.2 r.st.length q4.2.st.length) from h4)
theorem rsv_iffG (st : List StP) (tr : List TrQ) : rsv st tr = -1 ↔ ∀ t ∈ tr, 0 ≤ idxP st t.tn ∧ ∀ c ∈ t.conds, 0 ≤ idxP st c.name := by
 unfold rsv
 constructor
 ·intro h t ht
  have hn : (tr.flatMap refsQ).find? (badR st) = none := by
   cases e : (tr.flatMap refsQ).find? (badR st) with
   | none => rfl
   | some x => rw [e] at h; simp only at h; omega
  rw [List.find?_eq_none] at hn
  refine ⟨?_, fun c hc => ?_⟩
  ·have := hn (t.tn, t.tp) (List.mem_flatMap.2 ⟨t, ht, by unfold refsQ; simp⟩)
   simpa [badR] using this
  ·have := hn (c.name, c.place) (List.mem_flatMap.2 ⟨t, ht, by unfold refsQ; exact List.mem_append.2 (Or.inl (List.mem_map.2 ⟨c, hc, rfl⟩))⟩)
   simpa [badR] using this
 ·intro h
  have hn : (tr.flatMap refsQ).find? (badR st) = none := by
   rw [List.find?_eq_none]
   intro x hx
   obtain ⟨t, ht, hx⟩ := List.mem_flatMap.1 hx
   unfold refsQ at hx
   rcases List.mem_append.1 hx with hx | hx
   ·obtain ⟨c, hc, rfl⟩ := List.mem_map.1 hx
    simpa [badR] using (h t ht).2 c hc
   ·simp only [List.mem_cons, List.not_mem_nil, or_false] at hx
    subst hx
    simpa [badR] using (h t ht).1
  rw [hn]
theorem idx_of {st : List StP} (hw : ftw st = -1) {k : Nat} {y : StP} (hy : st[k]? = some y) (c : UInt8) : idxP st c = (k : Int) ↔ c = y.name := by
 constructor
 ·intro h
  unfold idxP at h
  rcases firstB_spec (isNmP st c) st.length with ⟨g1, -⟩ | ⟨j, g1, g2, g3, -⟩
  ·rw [g1] at h; simp only at h; omega
  ·rw [g1] at h
   have : j = k := by simp only at h; omega
   subst this
   unfold isNmP at g3
   rw [hy] at g3
   simp only [beq_iff_eq] at g3
   exact g3.symm
 ·intro h
  subst h
  have h1 := ftw_all hw hy
  have h2 := idxP_le hy y.name rfl
  omega
theorem mkStr_42 (m : UInt8) : mkStr m = ⟨#[42]⟩ ↔ m = 42 := by
 unfold mkStr
 split
 ·rename_i h; rw [h]; exact ⟨fun e => (by injection e with e; cases e), fun e => (by revert e; decide)⟩
 ·exact ⟨fun e => by injection e with e; simpa using e, fun e => by rw [e]⟩
theorem mkStr_126 (m : UInt8) : mkStr m = ⟨#[126]⟩ ↔ m = 126 := by
 unfold mkStr
 split
 ·rename_i h; rw [h]; exact ⟨fun e => (by injection e with e; cases e), fun e => (by revert e; decide)⟩
 ·exact ⟨fun e => by injection e with e; simpa using e, fun e => by rw [e]⟩
theorem mkd_iff (trs : List TrR) (c : UInt8) (mk : ByteArray) : mkd trs c mk = true ↔ ∃ t ∈ trs, t.target = c ∧ t.mark = mk := by
 unfold mkd
 rcases firstB_spec (mkAt trs c mk) trs.length with ⟨g1, g2⟩ | ⟨k, g1, g2, g3, -⟩
 ·rw [g1]
  constructor
  ·intro h; cases h
  ·rintro ⟨t, ht, h1, h2⟩
   obtain ⟨k, hk⟩ := List.mem_iff_getElem?.1 ht
   have := g2 k (List.getElem?_eq_some_iff.1 hk).1
   unfold mkAt at this
   rw [hk] at this
   simp [h1, h2] at this
 ·rw [g1]
  unfold mkAt at g3
  split at g3
  ·rename_i t ht
   simp only [Bool.and_eq_true, beq_iff_eq, decide_eq_true_eq] at g3
   exact ⟨fun _ => ⟨t, List.mem_of_getElem? ht, g3⟩, fun _ => rfl⟩
  ·cases g3
theorem un_marks {s : ByteArray} (h : (unE s).1 = 0) (k : Nat) (x : StP) (hx : (unSt s)[k]? = some x) :
    x.wh = mkd (rd s).tr x.name ⟨#[42]⟩ ∧ x.rem = (mkd (rd s).tr x.name ⟨#[42]⟩ || mkd (rd s).tr x.name ⟨#[126]⟩) ∧ (x.rem = true → x.kind = 1) := by
  obtain ⟨h160, hK, hw, hv, hm⟩ := unE_ok h
  have hok : (rcR s).1 = true := by
    simp only [rcK, Bool.and_eq_true] at hK
    exact hK.1
  have hM := (rd_eq s).1 hok
  have hWh : WhS (rcR s).2.st := WhS.rsF _ _ _ _ (fun x hx => by simp [R0] at hx)
  have hMk : MkS (rcR s).2 := MkS.rsF _ _ _ _ (fun t ht => by simp [R0] at ht)
  obtain ⟨y, hy, hs⟩ := (un_sm h).2 k x hx
  have hyw := hWh y (List.mem_of_getElem? hy)
  obtain ⟨m1, m2⟩ := mark_at _ _ k x y hx hy
  rw [hyw.1, Bool.false_or] at m1
  rw [hyw.2, Bool.false_or] at m2
  have hts : ∀ t ∈ (rcR s).2.tr, (idxP (rcR s).2.st t.tn).toNat = k ↔ t.tn = x.name := by
    intro t ht
    rw [hs.n, ← idx_of hw hy]
    have h1 := ((rsv_iffG (rcR s).2.st (rcR s).2.tr).1 hv t ht)
    omega
  have e1 : x.wh = mkd (rd s).tr x.name ⟨#[42]⟩ := by
    rw [m1, Bool.eq_iff_iff, List.any_eq_true, mkd_iff, hM.tr]
    constructor
    · rintro ⟨t, ht, h1⟩
      obtain ⟨t0, ht0, rfl⟩ := List.mem_map.1 ht
      simp only [Bool.and_eq_true, beq_iff_eq] at h1
      exact ⟨toTr t0, List.mem_map.2 ⟨t0, ht0, rfl⟩, (hts t0 ht0).1 h1.2, (mkStr_42 _).2 h1.1⟩
    · rintro ⟨t, ht, h1, h2⟩
      obtain ⟨t0, ht0, rfl⟩ := List.mem_map.1 ht
      refine ⟨resQ (rcR s).2.st t0, List.mem_map.2 ⟨t0, ht0, rfl⟩, ?_⟩
      simp only [Bool.and_eq_true, beq_iff_eq]
      exact ⟨(mkStr_42 _).1 h2, (hts t0 ht0).2 h1⟩
  have e2 : x.rem = (mkd (rd s).tr x.name ⟨#[42]⟩ || mkd (rd s).tr x.name ⟨#[126]⟩) := by
    rw [m2, Bool.eq_iff_iff, List.any_eq_true, Bool.or_eq_true, mkd_iff, mkd_iff, hM.tr]
    constructor
    · rintro ⟨t, ht, h1⟩
      obtain ⟨t0, ht0, rfl⟩ := List.mem_map.1 ht
      simp only [Bool.and_eq_true, Bool.not_eq_true', beq_eq_false_iff_ne, beq_iff_eq] at h1
      rcases hMk t0 ht0 with h2 | h2 | h2
      · exact absurd h2 h1.1
      · exact Or.inl ⟨toTr t0, List.mem_map.2 ⟨t0, ht0, rfl⟩, (hts t0 ht0).1 h1.2, (mkStr_42 _).2 h2⟩
      · exact Or.inr ⟨toTr t0, List.mem_map.2 ⟨t0, ht0, rfl⟩, (hts t0 ht0).1 h1.2, (mkStr_126 _).2 h2⟩
    · have key : ∀ mk m, (∀ z, mkStr z = mk ↔ z = m) → m ≠ 0 → (∃ t ∈ (rcR s).2.tr.map toTr, t.target = x.name ∧ t.mark = mk) → ∃ t ∈ (rcR s).2.tr.map (resQ (rcR s).2.st), (!(t.mark == 0) && t.ts.toNat == k) = true := by
        rintro mk m hmk hm0 ⟨t, ht, h1, h2⟩
        obtain ⟨t0, ht0, rfl⟩ := List.mem_map.1 ht
        refine ⟨resQ (rcR s).2.st t0, List.mem_map.2 ⟨t0, ht0, rfl⟩, ?_⟩
        simp only [Bool.and_eq_true, Bool.not_eq_true', beq_eq_false_iff_ne, beq_iff_eq]
        refine ⟨?_, (hts t0 ht0).2 h1⟩
        show t0.mark ≠ 0
        rw [(hmk _).1 h2]; exact hm0
      rintro (h1 | h1)
      · exact key _ 42 mkStr_42 (by decide) h1
      · exact key _ 126 mkStr_126 (by decide) h1
  refine ⟨e1, e2, fun hr => ?_⟩
  rw [hs.k]
  rcases hs.r hr with h1 | h1
  · rw [hyw.2] at h1; cases h1
  · exact h1

theorem nmK_congr (st : List StP) {l m : List Bool} : ∀ k, (∀ i, i < k → mem l i = mem m i) → nmK st l k = nmK st m k
 | 0, _ => rfl
 | k + 1, h => by rw [nmK, nmK, h k (by omega), nmK_congr st k (fun i hi => h i (by omega))]
theorem nmT_ne {st : List StP} {l : List Bool} {k : Nat} (hk : k < st.length) (h : mem l k = true) : nmT st l ≠ ⟨#[]⟩ := by
 intro e
 have h1 : nameAt st k ∈ nmK st l st.length := (nmK_mem st l _ _).2 ⟨k, hk, h, rfl⟩
 unfold nmT at e
 injection e with e
 have h2 : nmK st l st.length = [] := by simpa using e
 rw [h2] at h1
 cases h1
theorem nmT_0 {st : List StP} {l : List Bool} (h : ∀ i, i < st.length → mem l i = false) : nmT st l = ⟨#[]⟩ := by
 unfold nmT
 rw [nmK_low st l _ h]
theorem rc_eq {st : List StP} (ht : Tr st) {act : List Bool} (hL : Lg st act) {i : Nat} {x : StP} (hx : st[i]? = some x) (hi : mem act i = true) {A B : Bool} (hw : x.wh = A) (hr : x.rem = (A || B)) (hk : x.rem = true → x.kind = 1) :
  (x.rem = true → nmT st (rcB st act A B i) = nmT st (rmM st x.wh act i) ∧ nmT st (rcB st act A B i) ≠ ⟨#[]⟩) ∧ (x.rem = false → nmT st (rcB st act A B i) = ⟨#[]⟩) := by
 have h26 := ht.wf.len
 have his := (List.getElem?_eq_some_iff.1 hx).1
 refine ⟨fun h1 => ?_, fun h1 => ?_⟩
 ·have hkd : kindAt st i = 1 := by rw [kindAt_at hx]; exact hk h1
  obtain ⟨c, c1, c2, c3, c4⟩ := (hL.loc i his).one hi hkd
  have hcr := ht.child c1 c2
  have hAB : (A || B) = true := by rw [← hr]; exact h1
  have hbit : mem (rcB st act A B i) c = true := by
   rw [rcB_mem _ _ _ _ _ _ (by omega)]
   cases A with
   | true => simp [hcr.1, hcr.2, c3]
   | false =>
    have hB : B = true := by simpa using hAB
    simp [hcr.1, hcr.2, c3, hB, c2]
  refine ⟨?_, nmT_ne c1 hbit⟩
  unfold nmT
  congr 2
  refine nmK_congr st _ (fun k hk => ?_)
  rw [rcB_mem _ _ _ _ _ _ (by omega), hw]
  unfold rmM
  cases A with
  | true =>
   rw [if_pos rfl]
   unfold actB
   rw [mem_bel _ _ _ _ (by omega)]
   simp
  | false =>
   have hB : B = true := by simpa using hAB
   rw [if_neg (by decide), hB]
   have hin : i + 1 < endAt st i := by omega
   have hact : mem (actB st act i) c = true := by
    unfold actB
    rw [mem_bel _ _ _ _ (by omega)]; simp [hcr.1, hcr.2, c3]
   have hic : inAm st i (actB st act i) = c := by
    obtain ⟨d1, d2⟩ := inAm_ch ht his hin (actB st act i)
    have d3 := inAm_mem ht ⟨c, ⟨c1, c2⟩, hact⟩
    have d4 : mem act (inAm st i (actB st act i)) = true := by
     unfold actB at d3 ⊢
     rw [mem_bel _ _ _ _ (by unfold actB at d1; omega)] at d3
     simp only [Bool.and_eq_true] at d3
     exact d3.2
    exact c4 _ d1 d2 d4
   rw [hic]
   by_cases e : c = k
   ·subst e
    rw [mem_set_self (by simp [noSet]; omega)]
    simp [hcr.1, hcr.2, c3, c2]
   ·rw [mem_set_ne e, mem_no]
    cases hz : (decide (i < k) && decide (k < endAt st i) && mem act k && (false || (true && (outAt st k == (i : Int))))) with
    | false => rfl
    | true =>
     simp only [Bool.and_eq_true, Bool.or_eq_true, decide_eq_true_eq, beq_iff_eq, Bool.false_eq_true, false_or, true_and] at hz
     exact absurd (c4 k hk hz.2 hz.1.2).symm e
 ·have hAB : (A || B) = false := by rw [← hr]; exact h1
  have hA : A = false := by cases A <;> simp_all
  have hB : B = false := by cases B <;> simp_all
  refine nmT_0 (fun k hk => ?_)
  rw [rcB_mem _ _ _ _ _ _ (by omega), hA, hB]
  simp
theorem meOf_set {st : List StP} (mm : List (List Bool)) {i : Nat} (hi : i < st.length) (hl : st.length ≤ mm.length) (m : List Bool) : (meOf st mm).set i (nmT st m) = meOf st (mm.set i m) := by
 apply List.ext_getElem?
 intro j
 rw [List.getElem?_set]
 by_cases hj : j < st.length
 ·rw [meOf_at st (mm.set i m) hj, meOf_at st mm hj, memAt_setG]
  by_cases e : i = j
  ·subst e
   rw [if_pos rfl, if_pos (by rw [meOf_len]; exact hi), if_pos ⟨rfl, by omega⟩]
  ·rw [if_neg e, if_neg (fun h => e h.1)]
 ·have h1 : (meOf st mm)[j]? = none := List.getElem?_eq_none (by rw [meOf_len]; omega)
  have h2 : (meOf st (mm.set i m))[j]? = none := List.getElem?_eq_none (by rw [meOf_len]; omega)
  rw [h1, h2]
  by_cases e : i = j
  ·omega
  ·rw [if_neg e]
end Go.Proofs.YtmolmbeeoecnfaaGreatDoor
