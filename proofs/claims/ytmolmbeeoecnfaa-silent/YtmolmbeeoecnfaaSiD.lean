/- Own work: a text without actions has none, and puts out points alone. -/
import Derived.Test.YtmolmbeeoecnfaaSiC
namespace Go.Proofs.Ytmolmbeeoecnfaa
open Go.RowKit Go.BigFrame
set_option linter.unusedVariables false
set_option linter.unusedSimpArgs false

def NoA (s : ByteArray) : Prop := ∀ i, kp (byte s i) = true
theorem strp_no (s : ByteArray) : NoA (strp s) := by
  intro i
  by_cases h : i < (strp s).size
  · rw [byte_in _ _ h]
    have h1 : (strp s)[i] ∈ s.data.toList.filter kp := by
      have h2 : (strp s).data.toList[i]'(by exact h) ∈ (strp s).data.toList := List.getElem_mem _
      exact h2
    exact (List.mem_filter.1 h1).2
  · rw [byte_out _ _ h]; decide
abbrev E0 : ByteArray := ⟨#[]⟩
theorem cut_e0 {s : ByteArray} (h : NoA s) (i : Nat) : cut s i (dend s i) = E0 := by
  have h1 := h i
  have h2 : isD (byte s i) = false := by
    unfold kp at h1; simp only [Bool.and_eq_true, Bool.not_eq_true'] at h1; exact h1.1.1
  rw [dend_stop s i h2, cut_self]; rfl
theorem abS_e0 {s : ByteArray} (h : NoA s) (sg : UInt8) (i : Nat) : abS s sg i = E0 := by
  unfold abS; split
  · exact cut_e0 h _
  · rfl
theorem rtP_e0 {s : ByteArray} (h : NoA s) (own i : Nat) : (rtP s own i).2.2.acts = E0 := by
  unfold rtP
  simp only
  split
  · rfl
  · split
    · rfl
    · split
      · rfl
      · split
        · rfl
        · exact cut_e0 h _
def EmS (st : List StP) : Prop := ∀ x ∈ st, x.enter = E0 ∧ x.leave = E0
def EmOk (r : Rn) : Prop := EmS r.st ∧ ∀ t ∈ r.tr, t.acts = E0
theorem EmS.modify {st : List StP} (h : EmS st) (i : Nat) (g : StP → StP) (hg : ∀ x, x.enter = E0 ∧ x.leave = E0 → (g x).enter = E0 ∧ (g x).leave = E0) : EmS (st.modify i g) := by
  intro x hx
  obtain ⟨k, hk⟩ := List.mem_iff_getElem?.1 hx
  rw [List.getElem?_modify] at hk
  cases h6 : st[k]? with
  | none => rw [h6] at hk; simp at hk
  | some z =>
    have hz := h z (List.mem_of_getElem? h6)
    rw [h6] at hk
    by_cases hik : i = k
    · simp only [hik, if_pos, Option.map_eq_map, Option.map_some, Option.some.injEq] at hk
      rw [← hk]; exact hg z hz
    · simp [hik] at hk
      rw [← hk]; exact hz
section
variable {s : ByteArray} (hs : NoA s)
include hs
theorem EmOk.rtF {own : Nat} : ∀ (f : Nat) (r : Rn), EmOk r → EmOk (rtF s own f r).2
  | 0, r, h => h
  | f + 1, r, h => by
    have hp : EmOk { r with i := (rtP s own r.i).2.1, tr := r.tr ++ [(rtP s own r.i).2.2] } := by
      refine ⟨h.1, fun t ht => ?_⟩
      rcases List.mem_append.1 ht with ht | ht
      · exact h.2 t ht
      · simp only [List.mem_cons, List.not_mem_nil, or_false] at ht
        rw [ht]; exact rtP_e0 hs own r.i
    simp only [Proofs.Ytmolmbeeoecnfaa.rtF]
    split
    · split
      · exact EmOk.rtF f _ hp
      · exact hp
    · exact h
omit hs in
theorem EmOk.riF {g : Rn → Bool × Rn} (hg : ∀ q, EmOk q → EmOk (g q).2) : ∀ (f n : Nat) (r : Rn), EmOk r → EmOk (riF s g f n r).2.2
  | 0, n, r, h => h
  | f + 1, n, r, h => by
    simp only [Proofs.Ytmolmbeeoecnfaa.riF]
    split
    · split
      · exact EmOk.riF hg f _ _ (hg r h)
      · exact hg r h
    · exact h
omit hs in
theorem EmOk.riP {g : Rn → Bool × Rn} (hg : ∀ q, EmOk q → EmOk (g q).2) (fin : UInt8) (least : Nat) (r : Rn) (h : EmOk r) : EmOk (riP s g fin least r).2 := by
  have h1 : EmOk (riL s g 0 { r with i := r.i + 1 }).2.2 := EmOk.riF hg _ 0 { r with i := r.i + 1 } h
  unfold Proofs.Ytmolmbeeoecnfaa.riP
  split
  · exact h1
  · split
    · exact h1
    · exact h1
theorem EmOk.rsF : ∀ (f : Nat) (r : Rn) (outer : Int) (depth : Nat), EmOk r → EmOk (rsF s f r outer depth).2
  | 0, r, _, _, h => h
  | f + 1, r, outer, depth, h => by
    have hp1 : EmOk (rs1 s r outer depth) := by
      refine ⟨fun x hx => ?_, h.2⟩
      rcases List.mem_append.1 hx with hx | hx
      · exact h.1 x hx
      · simp only [List.mem_cons, List.not_mem_nil, or_false] at hx
        rw [hx]; exact ⟨rfl, rfl⟩
    simp only [Proofs.Ytmolmbeeoecnfaa.rsF]
    split
    · exact h
    · split
      · exact hp1
      · split
        · exact hp1
        · have h3 : EmOk (rs3 s r.st.length (rs1 s r outer depth)) :=
            ⟨(hp1.1.modify r.st.length (fun x => { x with enter := abS s 43 (r.i + 1) }) (fun x hx => ⟨abS_e0 hs _ _, hx.2⟩)).modify r.st.length (fun x => { x with leave := abS s 45 (abI s 43 (r.i + 1)) }) (fun x hx => ⟨hx.1, abS_e0 hs _ _⟩), hp1.2⟩
          have hk : ∀ kk, EmOk (setKP (rs3 s r.st.length (rs1 s r outer depth)) r.st.length kk) := fun kk => ⟨h3.1.modify r.st.length (fun x => { x with kind := kk }) (fun x hx => hx), h3.2⟩
          have h4 : EmOk (rs4 s (fun q => Proofs.Ytmolmbeeoecnfaa.rsF s f q (r.st.length : Nat) (depth + 1)) r.st.length (rs3 s r.st.length (rs1 s r outer depth))).2 := by
            unfold rs4
            split
            · exact EmOk.riP (fun q hq => EmOk.rsF f q _ _ hq) _ _ _ (hk 1)
            · split
              · exact EmOk.riP (fun q hq => EmOk.rsF f q _ _ hq) _ _ _ (hk 2)
              · exact h3
          generalize rs4 s (fun q => Proofs.Ytmolmbeeoecnfaa.rsF s f q (r.st.length : Nat) (depth + 1)) r.st.length (rs3 s r.st.length (rs1 s r outer depth)) = q4 at *
          unfold rs5
          split
          · exact h4
          · exact EmOk.rtF hs _ _ ⟨h4.1.modify r.st.length (fun x => { x with end_ := q4.2.st.length }) (fun x hx => hx), h4.2⟩
end
theorem EmS.mark1 {st : List StP} (h : EmS st) (t : TrQ) : EmS (mark1 st t) := by
  unfold Proofs.Ytmolmbeeoecnfaa.mark1
  split
  · exact h
  · split
    · exact (h.modify t.ts.toNat setRem (fun x hx => hx)).modify t.ts.toNat setWh (fun x hx => hx)
    · exact h.modify t.ts.toNat setRem (fun x hx => hx)
theorem EmS.fold : ∀ (tr : List TrQ) (st : List StP), EmS st → EmS (tr.foldl Proofs.Ytmolmbeeoecnfaa.mark1 st)
  | [], st, h => h
  | t :: tr, st, h => EmS.fold tr _ (h.mark1 t)
theorem un_e0 {s : ByteArray} (hs : NoA s) : EmS (unSt s) ∧ ∀ t ∈ unTr s, t.acts = E0 := by
  have h : EmOk (rcR s).2 := EmOk.rsF hs _ _ _ _ ⟨fun x hx => by simp [R0] at hx, fun t ht => by simp [R0] at ht⟩
  refine ⟨EmS.fold _ _ h.1, fun t ht => ?_⟩
  obtain ⟨t0, ht0, rfl⟩ := List.mem_map.1 ht
  exact h.2 t0 ht0

/-! Points alone. -/
section
variable {st : List StP} (he : EmS st)
include he
theorem lvF_out0 (left : List Bool) : ∀ (k : Nat) (p : Py), (lvF st left k p).out = p.out
  | 0, p => rfl
  | k + 1, p => by
    have h0 : bls (leaveAt st k) = [] := by
      unfold leaveAt; split
      · rename_i x hx; rw [(he x (List.mem_of_getElem? hx)).2]; rfl
      · rfl
    rw [lvF]
    split
    · rw [lvF_out0 left k]; show p.out ++ _ = _; rw [h0, List.append_nil]
    · exact lvF_out0 left k p
omit he in
theorem itF_out0 (g : Nat → Py → Py) (hg : ∀ i (p : Py), (g i p).out = p.out) : ∀ (n i : Nat) (p : Py), (itF g n i p).out = p.out
  | 0, i, p => rfl
  | n + 1, i, p => (itF_out0 g hg n (i + 1) (g i p)).trans (hg i p)
theorem enF_out0 : ∀ (f s : Nat) (a : Am) (p : Py), (enF st f s a p).out = p.out
  | 0, s, a, p => rfl
  | f + 1, s, a, p => by
    cases hx : st[s]? with
    | none => simp only [enF, hx]
    | some x =>
      have h0 : bls x.enter = [] := by rw [(he x (List.mem_of_getElem? hx)).1]; rfl
      have h1 : ({ p with act := p.act.set s true, out := p.out ++ bls x.enter } : Py).out = p.out := by show p.out ++ _ = _; rw [h0, List.append_nil]
      by_cases h2 : x.kind = 2
      · rw [enF_and hx h2]
        refine (itF_out0 _ ?_ _ _ _).trans h1
        intro i q
        split
        · exact enF_out0 f i a q
        · rfl
      · by_cases h3 : x.kind = 1
        · rw [enF_or hx h3]
          exact (enF_out0 f _ _ _).trans h1
        · rw [enF_leaf hx h2 h3]
          exact h1
theorem tkF_out0 (t : TrQ) (ht : t.acts = E0) (p : Py) : (tkF st t p).out = p.out := by
  unfold tkF
  rw [enF_out0 he]
  show (lvF st (lefB st p.act t) st.length (rmF st (lefB st p.act t) st.length p)).out ++ bls t.acts = _
  rw [lvF_out0 he, rmF_out, ht]
  exact List.append_nil _
theorem fold_out0 (th : List TrH) (ht : ∀ t ∈ th, t.q.acts = E0) : ∀ (ns : List Nat) (p : Py), (ns.foldl (tk1 st th) p).out = p.out
  | [], p => rfl
  | n :: ns, p => by
    rw [List.foldl_cons, fold_out0 th ht ns]
    unfold tk1; split
    · rename_i t hx; exact tkF_out0 he t.q (ht t (List.mem_of_getElem? hx)) p
    · rfl
theorem plK_out0 (th : List TrH) (ht : ∀ t ∈ th, t.q.acts = E0) (es : ByteArray) : ∀ k, (plK st th es k).out = List.replicate k 46
  | 0 => enF_out0 he 26 0 Am.free py0
  | k + 1 => by
    show ((tkn st th (plK st th es k).act (byte es k)).foldl (tk1 st th) { plK st th es k with out := (plK st th es k).out ++ [46] }).out = _
    rw [fold_out0 he th ht]
    show (plK st th es k).out ++ [46] = _
    rw [plK_out0 th ht es k, List.replicate_succ']
end
/-- What the chart without actions puts out. -/
theorem strip_out {s : ByteArray} (h : (unE s).1 = 0) (es : ByteArray) : pO (strp s) es = ⟨(List.replicate es.size 46).toArray⟩ := by
  have h1 := (un_strip h).1
  have h2 := un_e0 (strp_no s)
  rw [pO, if_pos (by rw [h1])]
  unfold plQ
  rw [plK_out0 h2.1 (th0 (strp s)) (fun t ht => by obtain ⟨q, hq, rfl⟩ := List.mem_map.1 ht; exact h2.2 q hq)]
end Go.Proofs.Ytmolmbeeoecnfaa
