/- Own work: actions hold no point; how many points are put out; the status is never empty. -/
import Derived.Test.YtmolmbeeoecnfaaPyS
namespace Go.Proofs.Ytmolmbeeoecnfaa
open Go.RowKit Go.BigFrame
set_option linter.unusedVariables false
set_option linter.unusedSimpArgs false

def NoP (a : ByteArray) : Prop := ∀ c ∈ bls a, c ≠ 46
theorem dend_dig (s : ByteArray) (i : Nat) : ∀ j, i ≤ j → j < dend s i → isD (byte s j) = true := by
  unfold dend
  generalize s.size - i = n
  induction n generalizing i with
  | zero => intro j h1 h2; simp only [dendF] at h2; omega
  | succ n ih =>
    intro j h1 h2
    simp only [dendF] at h2
    split at h2
    · rename_i h
      by_cases e : j = i
      · rw [e]; exact h
      · exact ih (i + 1) j (by omega) h2
    · omega
theorem cut_nop (s : ByteArray) (i : Nat) : NoP (cut s i (dend s i)) := by
  intro c hc e
  have hc' : c ∈ (s.data.toList.drop i).take (dend s i - i) := by simpa [bls, cut] using hc
  obtain ⟨k, hk⟩ := List.mem_iff_getElem?.1 hc'
  rw [List.getElem?_take] at hk
  split at hk
  · rename_i hlt
    rw [List.getElem?_drop] at hk
    obtain ⟨h1, h2⟩ := List.getElem?_eq_some_iff.1 hk
    have hsz : i + k < s.size := h1
    have h3 := dend_dig s i (i + k) (by omega) (by omega)
    rw [byte_in s (i + k) hsz] at h3
    have h4 : s[i + k] = c := by rw [← h2]; rfl
    rw [h4, e] at h3
    revert h3; decide
  · cases hk
theorem nil_nop : NoP ⟨#[]⟩ := by intro c hc; simp [bls] at hc
theorem abS_nop (s : ByteArray) (sg : UInt8) (i : Nat) : NoP (abS s sg i) := by
  unfold abS; split
  · exact cut_nop _ _
  · exact nil_nop
theorem rtP_nop (s : ByteArray) (own i : Nat) : NoP (rtP s own i).2.2.acts := by
  unfold rtP
  simp only
  split
  · exact nil_nop
  · split
    · exact nil_nop
    · split
      · exact nil_nop
      · split
        · exact nil_nop
        · exact cut_nop _ _
def DgS (st : List StP) : Prop := ∀ x ∈ st, NoP x.enter ∧ NoP x.leave
def DgOk (r : Rn) : Prop := DgS r.st ∧ ∀ t ∈ r.tr, NoP t.acts
theorem DgS.modify {st : List StP} (h : DgS st) (i : Nat) (g : StP → StP) (hg : ∀ x, NoP x.enter ∧ NoP x.leave → NoP (g x).enter ∧ NoP (g x).leave) : DgS (st.modify i g) := by
  intro x hx
  obtain ⟨k, hk⟩ := List.mem_iff_getElem?.1 hx
  rw [List.getElem?_modify] at hk
  cases h6 : st[k]? with
  | none => rw [h6] at hk; simp at hk
  | some z =>
    have hz := h z (List.mem_of_getElem? h6)
    rw [h6] at hk
    by_cases hik : i = k
    · simp only [hik, if_pos, Option.map_eq_map, Option.map_some, Option.some.injEq] at hk
      rw [← hk]; exact hg z hz
    · simp [hik] at hk
      rw [← hk]; exact hz
theorem DgOk.rtF {s : ByteArray} {own : Nat} : ∀ (f : Nat) (r : Rn), DgOk r → DgOk (rtF s own f r).2
  | 0, r, h => h
  | f + 1, r, h => by
    have hp : DgOk { r with i := (rtP s own r.i).2.1, tr := r.tr ++ [(rtP s own r.i).2.2] } := by
      refine ⟨h.1, fun t ht => ?_⟩
      rcases List.mem_append.1 ht with ht | ht
      · exact h.2 t ht
      · simp only [List.mem_cons, List.not_mem_nil, or_false] at ht
        rw [ht]; exact rtP_nop s own r.i
    simp only [Proofs.Ytmolmbeeoecnfaa.rtF]
    split
    · split
      · exact DgOk.rtF f _ hp
      · exact hp
    · exact h
theorem DgOk.riF {s : ByteArray} {g : Rn → Bool × Rn} (hg : ∀ q, DgOk q → DgOk (g q).2) : ∀ (f n : Nat) (r : Rn), DgOk r → DgOk (riF s g f n r).2.2
  | 0, n, r, h => h
  | f + 1, n, r, h => by
    simp only [Proofs.Ytmolmbeeoecnfaa.riF]
    split
    · split
      · exact DgOk.riF hg f _ _ (hg r h)
      · exact hg r h
    · exact h
theorem DgOk.riP {s : ByteArray} {g : Rn → Bool × Rn} (hg : ∀ q, DgOk q → DgOk (g q).2) (fin : UInt8) (least : Nat) (r : Rn) (h : DgOk r) : DgOk (riP s g fin least r).2 := by
  have h1 : DgOk (riL s g 0 { r with i := r.i + 1 }).2.2 := DgOk.riF hg _ 0 { r with i := r.i + 1 } h
  unfold Proofs.Ytmolmbeeoecnfaa.riP
  split
  · exact h1
  · split
    · exact h1
    · exact h1
theorem DgOk.rsF {s : ByteArray} : ∀ (f : Nat) (r : Rn) (outer : Int) (depth : Nat), DgOk r → DgOk (rsF s f r outer depth).2
  | 0, r, _, _, h => h
  | f + 1, r, outer, depth, h => by
    have hp1 : DgOk (rs1 s r outer depth) := by
      refine ⟨fun x hx => ?_, h.2⟩
      rcases List.mem_append.1 hx with hx | hx
      · exact h.1 x hx
      · simp only [List.mem_cons, List.not_mem_nil, or_false] at hx
        rw [hx]; exact ⟨nil_nop, nil_nop⟩
    simp only [Proofs.Ytmolmbeeoecnfaa.rsF]
    split
    · exact h
    · split
      · exact hp1
      · split
        · exact hp1
        · have h3 : DgOk (rs3 s r.st.length (rs1 s r outer depth)) :=
            ⟨(hp1.1.modify r.st.length (fun x => { x with enter := abS s 43 (r.i + 1) }) (fun x hx => ⟨abS_nop _ _ _, hx.2⟩)).modify r.st.length (fun x => { x with leave := abS s 45 (abI s 43 (r.i + 1)) }) (fun x hx => ⟨hx.1, abS_nop _ _ _⟩), hp1.2⟩
          have hk : ∀ kk, DgOk (setKP (rs3 s r.st.length (rs1 s r outer depth)) r.st.length kk) := fun kk => ⟨h3.1.modify r.st.length (fun x => { x with kind := kk }) (fun x hx => hx), h3.2⟩
          have h4 : DgOk (rs4 s (fun q => Proofs.Ytmolmbeeoecnfaa.rsF s f q (r.st.length : Nat) (depth + 1)) r.st.length (rs3 s r.st.length (rs1 s r outer depth))).2 := by
            unfold rs4
            split
            · exact DgOk.riP (fun q hq => DgOk.rsF f q _ _ hq) _ _ _ (hk 1)
            · split
              · exact DgOk.riP (fun q hq => DgOk.rsF f q _ _ hq) _ _ _ (hk 2)
              · exact h3
          generalize rs4 s (fun q => Proofs.Ytmolmbeeoecnfaa.rsF s f q (r.st.length : Nat) (depth + 1)) r.st.length (rs3 s r.st.length (rs1 s r outer depth)) = q4 at *
          unfold rs5
          split
          · exact h4
          · exact DgOk.rtF _ _ ⟨h4.1.modify r.st.length (fun x => { x with end_ := q4.2.st.length }) (fun x hx => hx), h4.2⟩
theorem DgS.mark1 {st : List StP} (h : DgS st) (t : TrQ) : DgS (mark1 st t) := by
  unfold Proofs.Ytmolmbeeoecnfaa.mark1
  split
  · exact h
  · split
    · exact (h.modify t.ts.toNat setRem (fun x hx => hx)).modify t.ts.toNat setWh (fun x hx => hx)
    · exact h.modify t.ts.toNat setRem (fun x hx => hx)
theorem DgS.fold : ∀ (tr : List TrQ) (st : List StP), DgS st → DgS (tr.foldl Proofs.Ytmolmbeeoecnfaa.mark1 st)
  | [], st, h => h
  | t :: tr, st, h => DgS.fold tr _ (h.mark1 t)
theorem un_dig (s : ByteArray) : DgS (unSt s) ∧ ∀ t ∈ unTr s, NoP t.acts := by
  have h : DgOk (rcR s).2 := DgOk.rsF _ _ _ _ ⟨fun x hx => by simp [R0] at hx, fun t ht => by simp [R0] at ht⟩
  refine ⟨DgS.fold _ _ h.1, fun t ht => ?_⟩
  obtain ⟨t0, ht0, rfl⟩ := List.mem_map.1 ht
  exact h.2 t0 ht0

/-! The points. -/
theorem nop_count {a : ByteArray} (h : NoP a) : (bls a).count 46 = 0 := List.count_eq_zero.2 (fun hm => h 46 hm rfl)
section
variable {st : List StP} (hd : DgS st)
include hd
theorem ent_count (k : Nat) : (bls (leaveAt st k)).count 46 = 0 := by
  unfold leaveAt; split
  · rename_i x hx; exact nop_count (hd x (List.mem_of_getElem? hx)).2
  · rfl
theorem lvF_count (left : List Bool) : ∀ (k : Nat) (p : Py), (lvF st left k p).out.count 46 = p.out.count 46
  | 0, p => rfl
  | k + 1, p => by
    rw [lvF]
    split
    · rw [lvF_count left k]
      show (p.out ++ bls (leaveAt st k)).count 46 = _
      rw [List.count_append, ent_count hd k]; rfl
    · exact lvF_count left k p
omit hd in
theorem itF_count (g : Nat → Py → Py) (hg : ∀ i (p : Py), (g i p).out.count 46 = p.out.count 46) : ∀ (n i : Nat) (p : Py), (itF g n i p).out.count 46 = p.out.count 46
  | 0, i, p => rfl
  | n + 1, i, p => (itF_count g hg n (i + 1) (g i p)).trans (hg i p)
theorem enF_count : ∀ (f s : Nat) (a : Am) (p : Py), (enF st f s a p).out.count 46 = p.out.count 46
  | 0, s, a, p => rfl
  | f + 1, s, a, p => by
    rw [enF]
    split
    · rfl
    · rename_i x hx
      have h1 : ({ p with act := p.act.set s true, out := p.out ++ bls x.enter } : Py).out.count 46 = p.out.count 46 := by
        show (p.out ++ bls x.enter).count 46 = _
        rw [List.count_append, nop_count (hd x (List.mem_of_getElem? hx)).1]; rfl
      split
      · refine (itF_count _ ?_ _ _ _).trans h1
        intro i q
        split
        · exact enF_count f i a q
        · rfl
      · split
        · exact (enF_count f _ _ _).trans h1
        · exact h1
theorem tkF_count (t : TrQ) (ht : NoP t.acts) (p : Py) : (tkF st t p).out.count 46 = p.out.count 46 := by
  unfold tkF
  rw [enF_count hd]
  show ((lvF st (lefB st p.act t) st.length (rmF st (lefB st p.act t) st.length p)).out ++ bls t.acts).count 46 = _
  rw [List.count_append, nop_count ht, lvF_count hd, rmF_out]; rfl
theorem fold_count (th : List TrH) (ht : ∀ t ∈ th, NoP t.q.acts) : ∀ (ns : List Nat) (p : Py), (ns.foldl (tk1 st th) p).out.count 46 = p.out.count 46
  | [], p => rfl
  | n :: ns, p => by
    rw [List.foldl_cons, fold_count th ht ns]
    unfold tk1; split
    · rename_i t hx; exact tkF_count hd t.q (ht t (List.mem_of_getElem? hx)) p
    · rfl
theorem plK_count (th : List TrH) (ht : ∀ t ∈ th, NoP t.q.acts) (es : ByteArray) : ∀ k, (plK st th es k).out.count 46 = k
  | 0 => enF_count hd 26 0 Am.free py0
  | k + 1 => by
    show ((tkn st th (plK st th es k).act (byte es k)).foldl (tk1 st th) { plK st th es k with out := (plK st th es k).out ++ [46] }).out.count 46 = _
    rw [fold_count hd th ht]
    show ((plK st th es k).out ++ [46]).count 46 = _
    rw [List.count_append, plK_count th ht es k]; rfl
end
end Go.Proofs.Ytmolmbeeoecnfaa
