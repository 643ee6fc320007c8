/- Own work: CoR5, CoR6. -/
import Derived.Test.YtmolmbeeoecnfaaGreatDoorF30
import Derived.Test.YtmolmbeeoecnfaaGreatDoorF33
/- Own work: plain: what a chart puts out is digits; the events rise; the compiled table is a right one. -/
namespace Go.Proofs.YtmolmbeeoecnfaaGreatDoor
open Go.RowKit Go.BigFrame
set_option linter.unusedVariables false
set_option linter.unusedSimpArgs false

def DgA (a : ByteArray) : Prop := ∀ c ∈ bls a, isD c = true
theorem cut_dga (s : ByteArray) (i : Nat) : DgA (cut s i (dend s i)) := by
 intro c hc
 have hc' : c ∈ (s.data.toList.drop i).take (dend s i - i) := by simpa [bls, cut] using hc
 obtain ⟨k, hk⟩ := List.mem_iff_getElem?.1 hc'
 rw [List.getElem?_take] at hk
 split at hk
 ·rename_i hlt
  rw [List.getElem?_drop] at hk
  obtain ⟨h1, h2⟩ := List.getElem?_eq_some_iff.1 hk
  have hsz : i + k < s.size := h1
  have h3 := dend_dig s i (i + k) (by omega) (by omega)
  rw [byte_in s (i + k) hsz] at h3
  have h4 : s[i + k] = c := by rw [← h2]; rfl
  rw [h4] at h3
  exact h3
 ·cases hk
theorem nil_dga : DgA ⟨#[]⟩ := by intro c hc; simp [bls] at hc
theorem abS_dga (s : ByteArray) (sg : UInt8) (i : Nat) : DgA (abS s sg i) := by
 unfold abS; split
 ·exact cut_dga _ _
 ·exact nil_dga
theorem rtP_dga (s : ByteArray) (own i : Nat) : DgA (rtP s own i).2.2.acts := by
 unfold rtP
 simp only
 split
 ·exact nil_dga
 ·split
  ·exact nil_dga
  ·split
   ·exact nil_dga
   ·split
    ·exact nil_dga
    ·exact cut_dga _ _
def DdS (st : List StP) : Prop := ∀ x ∈ st, DgA x.enter ∧ DgA x.leave
def DdOk (r : Rn) : Prop := DdS r.st ∧ ∀ t ∈ r.tr, DgA t.acts
theorem DdS.modify {st : List StP} (h : DdS st) (i : Nat) (g : StP → StP) (hg : ∀ x, DgA x.enter ∧ DgA x.leave → DgA (g x).enter ∧ DgA (g x).leave) : DdS (st.modify i g) := by
 intro x hx
 obtain ⟨k, hk⟩ := List.mem_iff_getElem?.1 hx
 rw [List.getElem?_modify] at hk
 cases h6 : st[k]? with
 | none => rw [h6] at hk; simp at hk
 | some z =>
  have hz := h z (List.mem_of_getElem? h6)
  rw [h6] at hk
  by_cases hik : i = k
  ·simp only [hik, if_pos, Option.map_eq_map, Option.map_some, Option.some.injEq] at hk
   rw [← hk]; exact hg z hz
  ·simp [hik] at hk
   rw [← hk]; exact hz
theorem DdOk.rtF {s : ByteArray} {own : Nat} : ∀ (f : Nat) (r : Rn), DdOk r → DdOk (rtF s own f r).2
 | 0, r, h => h
 | f + 1, r, h => by
  have hp : DdOk { r with i := (rtP s own r.i).2.1, tr := r.tr ++ [(rtP s own r.i).2.2] } := by
   refine ⟨h.1, fun t ht => ?_⟩
   rcases List.mem_append.1 ht with ht | ht
   ·exact h.2 t ht
   ·simp only [List.mem_cons, List.not_mem_nil, or_false] at ht
    rw [ht]; exact rtP_dga s own r.i
  simp only [Proofs.YtmolmbeeoecnfaaGreatDoor.rtF]
  split
  ·split
   ·exact DdOk.rtF f _ hp
   ·exact hp
  ·exact h
theorem DdOk.riF {s : ByteArray} {g : Rn → Bool × Rn} (hg : ∀ q, DdOk q → DdOk (g q).2) : ∀ (f n : Nat) (r : Rn), DdOk r → DdOk (riF s g f n r).2.2
 | 0, n, r, h => h
 | f + 1, n, r, h => by
  simp only [Proofs.YtmolmbeeoecnfaaGreatDoor.riF]
  split
  ·split
   ·exact DdOk.riF hg f _ _ (hg r h)
   ·exact hg r h
  ·exact h
theorem DdOk.riP {s : ByteArray} {g : Rn → Bool × Rn} (hg : ∀ q, DdOk q → DdOk (g q).2) (fin : UInt8) (least : Nat) (r : Rn) (h : DdOk r) : DdOk (riP s g fin least r).2 := by
 have h1 : DdOk (riL s g 0 { r with i := r.i + 1 }).2.2 := DdOk.riF hg _ 0 { r with i := r.i + 1 } h
 unfold Proofs.YtmolmbeeoecnfaaGreatDoor.riP
 split
 ·exact h1
 ·split
  ·exact h1
  ·exact h1
theorem DdOk.rsF {s : ByteArray} : ∀ (f : Nat) (r : Rn) (outer : Int) (depth : Nat), DdOk r → DdOk (rsF s f r outer depth).2
  | 0, r, _, _, h => h
  | f + 1, r, outer, depth, h => by
    have hp1 : DdOk (rs1 s r outer depth) := by
      refine ⟨fun x hx => ?_, h.2⟩
      rcases List.mem_append.1 hx with hx | hx
      · exact h.1 x hx
      · simp only [List.mem_cons, List.not_mem_nil, or_false] at hx
        rw [hx]; exact ⟨nil_dga, nil_dga⟩
    simp only [Proofs.YtmolmbeeoecnfaaGreatDoor.rsF]
    split
    · exact h
    · split
      · exact hp1
      · split
        · exact hp1
        · have h3 : DdOk (rs3 s r.st.length (rs1 s r outer depth)) :=
            ⟨(hp1.1.modify r.st.length (fun x => { x with enter := abS s 43 (r.i + 1) }) (fun x hx => ⟨abS_dga _ _ _, hx.2⟩)).modify r.st.length (fun x => { x with leave := abS s 45 (abI s 43 (r.i + 1)) }) (fun x hx => ⟨hx.1, abS_dga _ _ _⟩), hp1.2⟩
          have hk : ∀ kk, DdOk (setKP (rs3 s r.st.length (rs1 s r outer depth)) r.st.length kk) := fun kk => ⟨h3.1.modify r.st.length (fun x => { x with kind := kk }) (fun x hx => hx), h3.2⟩
          have h4 : DdOk (rs4 s (fun q => Proofs.YtmolmbeeoecnfaaGreatDoor.rsF s f q (r.st.length : Nat) (depth + 1)) r.st.length (rs3 s r.st.length (rs1 s r outer depth))).2 := by
            unfold rs4
            split
            · exact DdOk.riP (fun q hq => DdOk.rsF f q _ _ hq) _ _ _ (hk 1)
            · split
              · exact DdOk.riP (fun q hq => DdOk.rsF f q _ _ hq) _ _ _ (hk 2)
              · exact h3
          generalize rs4 s (fun q => Proofs.YtmolmbeeoecnfaaGreatDoor.rsF s f q (r.st.length : Nat) (depth + 1)) r.st.length (rs3 s r.st.length (rs1 s r outer depth)) = q4 at *
          unfold rs5
          split
          · exact h4
          · exact DdOk.rtF _ _ ⟨h4.1.modify r.st.length (fun x => { x with end_ := q4.2.st.length }) (fun x hx => hx), h4.2⟩
theorem DdS.mark1 {st : List StP} (h : DdS st) (t : TrQ) : DdS (mark1 st t) := by
 unfold Proofs.YtmolmbeeoecnfaaGreatDoor.mark1
 split
 ·exact h
 ·split
  ·exact (h.modify t.ts.toNat setRem (fun x hx => hx)).modify t.ts.toNat setWh (fun x hx => hx)
  ·exact h.modify t.ts.toNat setRem (fun x hx => hx)
theorem DdS.fold : ∀ (tr : List TrQ) (st : List StP), DdS st → DdS (tr.foldl Proofs.YtmolmbeeoecnfaaGreatDoor.mark1 st)
 | [], st, h => h
 | t :: tr, st, h => DdS.fold tr _ (h.mark1 t)
theorem un_dd (s : ByteArray) : DdS (unSt s) ∧ ∀ t ∈ unTr s, DgA t.acts := by
 have h : DdOk (rcR s).2 := DdOk.rsF _ _ _ _ ⟨fun x hx => by simp [R0] at hx, fun t ht => by simp [R0] at ht⟩
 refine ⟨DdS.fold _ _ h.1, fun t ht => ?_⟩
 obtain ⟨t0, ht0, rfl⟩ := List.mem_map.1 ht
 exact h.2 t0 ht0


def OuD (p : Py) : Prop := ∀ c ∈ p.out, isD c = true
theorem OuD.app {p : Py} (h : OuD p) {a : ByteArray} (ha : DgA a) (act : List Bool) : OuD { p with act := act, out := p.out ++ bls a } := by
 intro c hc
 rcases List.mem_append.1 hc with h1 | h1
 ·exact h c h1
 ·exact ha c h1
theorem itF_oud (g : Nat → Py → Py) (hg : ∀ i (p : Py), OuD p → OuD (g i p)) : ∀ (n i : Nat) (p : Py), OuD p → OuD (itF g n i p)
 | 0, i, p, h => h
 | n + 1, i, p, h => itF_oud g hg n (i + 1) (g i p) (hg i p h)
section
variable {st : List StP} (hd : DdS st)
include hd
theorem enF_oud : ∀ (f s : Nat) (a : Am) (p : Py), OuD p → OuD (enF st f s a p)
 | 0, s, a, p, h => h
 | f + 1, s, a, p, h => by
  rw [enF]
  split
  ·exact h
  ·rename_i x hx
   have h1 := h.app (hd x (List.mem_of_getElem? hx)).1 (p.act.set s true)
   split
   ·refine itF_oud _ ?_ _ _ _ h1
    intro i q hq
    split
    ·exact enF_oud f i a q hq
    ·exact hq
   ·split
    ·exact enF_oud f _ _ _ h1
    ·exact h1
theorem lvF_oud (left : List Bool) : ∀ (k : Nat) (p : Py), OuD p → OuD (lvF st left k p)
 | 0, p, h => h
 | k + 1, p, h => by
  rw [lvF]
  split
  ·refine lvF_oud left k _ (h.app ?_ _)
   unfold leaveAt; split
   ·rename_i x hx; exact (hd x (List.mem_of_getElem? hx)).2
   ·exact nil_dga
  ·exact lvF_oud left k p h
theorem tkF_oud (t : TrQ) (ht : DgA t.acts) (p : Py) (h : OuD p) : OuD (tkF st t p) := by
 unfold tkF
 refine enF_oud hd _ _ _ _ ?_
 have h1 : OuD (lvF st (lefB st p.act t) st.length (rmF st (lefB st p.act t) st.length p)) := lvF_oud hd _ _ _ (by unfold OuD; rw [rmF_out]; exact h)
 exact h1.app ht _
theorem fold_oud (th : List TrH) (ht : ∀ t ∈ th, DgA t.q.acts) : ∀ (ns : List Nat) (p : Py), OuD p → OuD (ns.foldl (tk1 st th) p)
 | [], p, h => h
 | n :: ns, p, h => by
  rw [List.foldl_cons]
  refine fold_oud th ht ns _ ?_
  unfold tk1; split
  ·rename_i t hx; exact tkF_oud hd t.q (ht t (List.mem_of_getElem? hx)) p h
  ·exact h
theorem spS_oud (th : List TrH) (ht : ∀ t ∈ th, DgA t.q.acts) (ev : UInt8) (x : Sx) : OuD (spS st th ev x) := fold_oud hd th ht _ _ (fun c hc => by simp at hc)
theorem beg_oud : OuD (begP st) := enF_oud hd _ _ _ _ (fun c hc => by simp [py0] at hc)
end

theorem rise_snoc : ∀ (l : List UInt8) (p c : UInt8), Rise p l → (∀ d ∈ l, d < c) → p < c → isE c = true → Rise p (l ++ [c])
 | [], p, c, _, _, h, hc => ⟨hc, h, trivial⟩
 | d :: l, p, c, h, hl, _, hc => ⟨h.1, h.2.1, rise_snoc l d c h.2.2 (fun e he => hl e (by simp [he])) (hl d (by simp)) hc⟩
theorem evP_lt (th : List TrH) : ∀ k, k ≤ 26 → ∀ d ∈ evP th k, d.toNat < 97 + k
 | 0, _, d, h => by simp [evP] at h
 | k + 1, hk, d, h => by
  rw [evP] at h
  split at h
  ·rcases List.mem_append.1 h with h1 | h1
   ·have := evP_lt th k (by omega) d h1; omega
   ·simp only [List.mem_cons, List.not_mem_nil, or_false] at h1
    rw [h1, UInt8.toNat_ofNat', Nat.mod_eq_of_lt (by omega)]; omega
  ·have := evP_lt th k (by omega) d h; omega
theorem evP_rise (th : List TrH) : ∀ k, k ≤ 26 → Rise 0 (evP th k)
 | 0, _ => trivial
 | k + 1, hk => by
  have ih := evP_rise th k (by omega)
  have ht : (UInt8.ofNat (97 + k)).toNat = 97 + k := by rw [UInt8.toNat_ofNat', Nat.mod_eq_of_lt (by omega)]
  rw [evP]
  split
  ·refine rise_snoc _ _ _ ih (fun d hd => ?_) ?_ ?_
   ·have := evP_lt th k (by omega) d hd
    rw [UInt8.lt_iff_toNat_lt, ht]; exact this
   ·rw [UInt8.lt_iff_toNat_lt, ht]; show 0 < _; omega
   ·unfold isE
    simp only [Bool.and_eq_true, decide_eq_true_eq, UInt8.le_iff_toNat_le, ht]
    have a1 : (97 : UInt8).toNat = 97 := rfl
    have a2 : (122 : UInt8).toNat = 122 := rfl
    omega
  ·exact ih

structure CoT (st : List StP) (th : List TrH) (lim : Int) (l : List Sx) (Cs : List (List Cl)) : Prop where
 ci : CoI st th (evS th) l Cs
 len : Cs.length = l.length
 st0 : l[0]? = some (sxP (begP st))
 lm : (l.length : Int) ≤ lim
theorem coR_some {st : List StP} {th : List TrH} {lim : Int} {t : ByteArray} (h : coR st th lim = some t) :
  ∃ l Cs, CoT st th lim l Cs ∧ t = ⟨(taK (evS th) ⟨(begP st).out.toArray⟩ (Cs.map txC) Cs.length).toArray⟩ := by
 unfold coR at h
 have h1 := coF_coG st th (evS th) lim 100 [sxP (begP st)] []
 rw [List.map_nil] at h1
 rw [h1] at h
 cases hz : coG st th (evS th) lim 100 [sxP (begP st)] [] with
 | none => rw [hz] at h; cases h
 | some z =>
  rw [hz] at h
  simp only [Option.map_some, Option.some.injEq, List.length_map] at h
  have h0 : CoI st th (evS th) [sxP (begP st)] [] := by
   refine ⟨fun i j x hi hj => ?_, by simp, fun i C hi => by simp at hi⟩
   have a1 := (List.getElem?_eq_some_iff.1 hi).1
   have a2 := (List.getElem?_eq_some_iff.1 hj).1
   simp only [List.length_cons, List.length_nil] at a1 a2
   omega
  obtain ⟨q1, q2, q3, q4⟩ := coG_ok 100 _ _ z h0 rfl (Or.inl (by simp)) hz
  exact ⟨z.1, z.2, ⟨q1, q2, q3, q4⟩, h.symm⟩
def rts (Cs : List (List Cl)) : List Rtx := (List.range Cs.length).map (rtOf Cs)
theorem rts_get {Cs : List (List Cl)} {i : Nat} (h : i < Cs.length) : (rts Cs)[i]? = some (rtOf Cs i) := by simp [rts, h]
section
variable {st : List StP} {th : List TrH} {lim : Int} {l : List Sx} {Cs : List (List Cl)} (hT : CoT st th lim l Cs) (hd : DdS st) (hta : ∀ t ∈ th, DgA t.q.acts) (hl : lim ≤ 99)
include hT
theorem CoT.dst {i k : Nat} {C : List Cl} {c : Cl} (hC : Cs[i]? = some C) (hc : C[k]? = some c) : c.dst < l.length := by
 obtain ⟨x, -, -, h3⟩ := hT.ci.ce i C hC
 exact (List.getElem?_eq_some_iff.1 (h3 k c hc).1).1
include hd hta hl
theorem CoT.clg {i : Nat} {C : List Cl} (hC : Cs[i]? = some C) : C.length = (bls (evS th)).length ∧ ∀ c ∈ C, ClG c := by
 obtain ⟨x, h1, h2, h3⟩ := hT.ci.ce i C hC
 refine ⟨h2, fun c hc => ?_⟩
 obtain ⟨k, hk⟩ := List.mem_iff_getElem?.1 hc
 have h4 := hT.dst hC hk
 have h5 := hT.lm
 refine ⟨by omega, ?_⟩
 rw [(h3 k c hk).2]
 intro d hd'
 exact spS_oud hd th hta _ x d (by simpa using hd')
theorem CoT.rtg : ∀ r ∈ rts Cs, r.G (bls (evS th)).length := by
 intro r hr
 obtain ⟨i, hi, rfl⟩ := List.mem_map.1 hr
 have hi' : i < Cs.length := by simpa using hi
 obtain ⟨C, hC⟩ : ∃ C, Cs[i]? = some C := ⟨_, List.getElem?_eq_getElem hi'⟩
 have hg := hT.clg hd hta hl hC
 unfold rtOf
 rw [hC]
 simp only
 split
 ·rename_i hlt
  show fiR _ _ < 1000000
  have := hT.lm
  have := hT.len
  omega
 ·exact hg
theorem CoT.form : formP ⟨(taK (evS th) ⟨(begP st).out.toArray⟩ (Cs.map txC) Cs.length).toArray⟩ = (true, (taK (evS th) ⟨(begP st).out.toArray⟩ (Cs.map txC) Cs.length).length, ⟨evS th, ⟨(begP st).out.toArray⟩, rtR ((bls (evS th)).length + 1 + ((bls (⟨(begP st).out.toArray⟩ : ByteArray)).length + 1)) (rts Cs)⟩) := by
 have hpos : 0 < l.length := (List.getElem?_eq_some_iff.1 hT.st0).1
 have hne : rts Cs ≠ [] := by
  intro e
  have h1 : (rts Cs).length = Cs.length := by simp [rts]
  rw [e] at h1
  simp only [List.length_nil] at h1
  have := hT.len
  omega
 have h := form_at (bls (evS th)) (bls (⟨(begP st).out.toArray⟩ : ByteArray)) (rts Cs) (by
  have : bls (evS th) = evP th 26 := by simp [bls, evS]
  rw [this]; exact evP_rise th 26 (Nat.le_refl _)) (by
  have : bls (⟨(begP st).out.toArray⟩ : ByteArray) = (begP st).out := by simp [bls]
  rw [this]; exact beg_oud hd) hne (hT.rtg hd hta hl)
 rw [taK_tb _ _ Cs Cs.length (Nat.le_refl _)]
 have e1 : (⟨(bls (evS th)).toArray⟩ : ByteArray) = evS th := by simp [bls]
 have e2 : (⟨(bls (⟨(begP st).out.toArray⟩ : ByteArray)).toArray⟩ : ByteArray) = ⟨(begP st).out.toArray⟩ := by simp [bls]
 rw [e1, e2] at h
 exact h
omit hd hta hl in
theorem CoT.sound (p : Nat) : ∀ i, sdB (rtR p (rts Cs)) i = false := by
 have hlen : (rtR p (rts Cs)).length = l.length := by rw [rtR_len, ← hT.len]; simp [rts]
 intro i
 by_cases hi : i < Cs.length
 ·obtain ⟨C, hC⟩ : ∃ C, Cs[i]? = some C := ⟨_, List.getElem?_eq_getElem hi⟩
  obtain ⟨q, hq⟩ := rtR_get (rts Cs) p i _ (rts_get hi)
  unfold sdB
  rw [hq]
  simp only [Bool.not_eq_false']
  by_cases hf : fiR (Cs.map txC) (txC C) < i
  ·have e : rtOf Cs i = .same (fiR (Cs.map txC) (txC C)) := by unfold rtOf; rw [hC]; simp only; rw [if_pos hf]
   obtain ⟨D, d1, d2, -⟩ := rtOf_fi hC
   obtain ⟨q2, hq2⟩ := rtR_get (rts Cs) p _ _ (rts_get (List.getElem?_eq_some_iff.1 d1).1)
   rw [d2] at hq2
   rw [e]
   unfold sdQ
   have e3 : (Rtx.row q (.same (fiR (Cs.map txC) (txC C)))).same = (fiR (Cs.map txC) (txC C) : Int) := rfl
   rw [e3, if_pos (by omega), Int.toNat_natCast, hq2]
   show (decide ((fiR (Cs.map txC) (txC C) : Int) < (i : Int)) && decide ((-1 : Int) < 0)) = true
   simp only [Bool.and_eq_true, decide_eq_true_eq]
   omega
  ·have e : rtOf Cs i = .own C := by unfold rtOf; rw [hC]; simp only; rw [if_neg hf]
   rw [e]
   unfold sdQ
   have e3 : (Rtx.row q (.own C)).same = -1 := rfl
   rw [e3, if_neg (by omega)]
   simp only [Bool.and_eq_true, Bool.not_eq_true']
   refine ⟨?_, ?_⟩
   ·unfold ldD
    rw [firstB_none (ldDB _ _) _ (fun k hk => ?_)]
    ·rfl
    ·unfold ldDB
     split
     ·rename_i c hc
      have := hT.dst hC hc
      rw [hlen]
      simp; omega
     ·rfl
   ·unfold stD
    rw [firstB_none (stDB _ _) i (fun k hk => ?_)]
    ·rfl
    ·unfold stDB
     split
     ·rename_i x hx
      by_cases hs : x.same < 0
      ·have hkl : k < Cs.length := by omega
       obtain ⟨q2, hq2⟩ := rtR_get (rts Cs) p k _ (rts_get hkl)
       rw [hx] at hq2
       simp only [Option.some.injEq] at hq2
       obtain ⟨D, hD⟩ : ∃ D, Cs[k]? = some D := ⟨_, List.getElem?_eq_getElem hkl⟩
       have hr : rtOf Cs k = .own D := by
        unfold rtOf
        rw [hD]
        simp only
        split
        ·rename_i hlt
         exfalso
         have h6 : rtOf Cs k = .same (fiR (Cs.map txC) (txC D)) := by unfold rtOf; rw [hD]; simp only; rw [if_pos hlt]
         rw [hq2, h6] at hs
         simp only [Rtx.row] at hs
         omega
        ·rfl
       rw [hr] at hq2
       have h7 : dText x = txC D := by rw [hq2]; rfl
       have h8 : dText (Rtx.row q (.own C)) = txC C := rfl
       rw [h7, h8]
       simp only [Bool.and_eq_false_iff, decide_eq_false_iff_not]
       right
       intro e9
       have h10 := (fiR_at (rows := Cs.map txC) (x := txC C) (i := k) (by rw [List.getElem?_map, hD]; simp [e9])).1
       omega
      ·simp [hs]
     ·rfl
 ·unfold sdB
  rw [List.getElem?_eq_none (by rw [hlen]; have := hT.len; omega)]
theorem CoT.right (hs : (taK (evS th) ⟨(begP st).out.toArray⟩ (Cs.map txC) Cs.length).length ≤ 600000) : rdT ⟨(taK (evS th) ⟨(begP st).out.toArray⟩ (Cs.map txC) Cs.length).toArray⟩ = (0, 0) := by
 have hf := hT.form hd hta hl
 have hsz : (⟨(taK (evS th) ⟨(begP st).out.toArray⟩ (Cs.map txC) Cs.length).toArray⟩ : ByteArray).size = (taK (evS th) ⟨(begP st).out.toArray⟩ (Cs.map txC) Cs.length).length := by show (taK _ _ _ _).toArray.size = _; simp
 unfold rdT
 rw [if_neg (by rw [hsz]; omega), hf]
 simp only
 have h1 := hT.lm
 have h2 := hT.len
 have h3 : (rtR ((bls (evS th)).length + 1 + ((bls (⟨(begP st).out.toArray⟩ : ByteArray)).length + 1)) (rts Cs)).length = Cs.length := by rw [rtR_len]; simp [rts]
 rw [if_neg (by simp), if_neg (by omega), firstB_none _ _ (fun j _ => hT.sound _ j)]
end
end Go.Proofs.YtmolmbeeoecnfaaGreatDoor
