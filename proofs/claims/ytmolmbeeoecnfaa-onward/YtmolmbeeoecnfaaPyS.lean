/- Own work: plain facts of the player: the transitions' places do not matter; what is put out stays; the outermost state is active. -/
import Derived.Test.YtmolmbeeoecnfaaPyR
namespace Go.Proofs.Ytmolmbeeoecnfaa
open Go.RowKit Go.BigFrame
set_option linter.unusedVariables false
set_option linter.unusedSimpArgs false

section
variable {th th' : List TrH} (h : th.map TrH.q = th'.map TrH.q)
include h
theorem qq_len : th.length = th'.length := by simpa using congrArg List.length h
theorem qq (k : Nat) : (th[k]? = none ∧ th'[k]? = none) ∨ ∃ t t', th[k]? = some t ∧ th'[k]? = some t' ∧ t.q = t'.q := by
  have h1 : (th.map TrH.q)[k]? = (th'.map TrH.q)[k]? := by rw [h]
  rw [List.getElem?_map, List.getElem?_map] at h1
  cases h2 : th[k]? with
  | none => cases h3 : th'[k]? with
    | none => exact Or.inl ⟨rfl, rfl⟩
    | some t => rw [h2, h3] at h1; cases h1
  | some t => cases h3 : th'[k]? with
    | none => rw [h2, h3] at h1; cases h1
    | some t' => rw [h2, h3] at h1; exact Or.inr ⟨t, t', rfl, rfl, by simpa using h1⟩
theorem posB_congr (act : List Bool) (s : Nat) (ev : UInt8) : posB th act s ev = posB th' act s ev := by
  funext k
  unfold posB
  rcases qq h k with ⟨h1, h2⟩ | ⟨t, t', h1, h2, h3⟩
  · rw [h1, h2]
  · rw [h1, h2]; simp only; rw [h3]
theorem fpo_congr (act : List Bool) (s : Nat) (ev : UInt8) : fpo th act s ev = fpo th' act s ev := by
  unfold fpo; rw [posB_congr h, qq_len h]
theorem cfF_congr (st : List StP) (act : List Bool) (ev : UInt8) : ∀ (f : Nat) (s : Int), cfF st th act ev f s = cfF st th' act ev f s
  | 0, s => rfl
  | f + 1, s => by unfold cfF; rw [fpo_congr h, cfF_congr st act ev f]
theorem cl1_congr (st : List StP) (act : List Bool) (ev : UInt8) : cl1 st th act ev = cl1 st th' act ev := by
  funext acc s
  unfold cl1 cfO; rw [cfF_congr h]
theorem clL_congr (st : List StP) (act : List Bool) (ev : UInt8) : clL st th act ev = clL st th' act ev := by
  unfold clL clK; rw [cl1_congr h]
theorem wc1_congr (st : List StP) (act : List Bool) : wc1 st th act = wc1 st th' act := by
  funext z k
  unfold wc1
  rcases qq h k with ⟨h1, h2⟩ | ⟨t, t', h1, h2, h3⟩
  · rw [h1, h2]
  · rw [h1, h2]; simp only; rw [h3]
theorem tkn_congr (st : List StP) (act : List Bool) (ev : UInt8) : tkn st th act ev = tkn st th' act ev := by
  unfold tkn wcL; rw [wc1_congr h, clL_congr h]
theorem tk1_congr (st : List StP) : tk1 st th = tk1 st th' := by
  funext p n
  unfold tk1
  rcases qq h n with ⟨h1, h2⟩ | ⟨t, t', h1, h2, h3⟩
  · rw [h1, h2]
  · rw [h1, h2]; simp only; rw [h3]
theorem spF_congr (st : List StP) (ev : UInt8) (p : Py) : spF st th ev p = spF st th' ev p := by
  unfold spF; rw [tkn_congr h, tk1_congr h]
theorem plK_congr (st : List StP) (es : ByteArray) : ∀ k, plK st th es k = plK st th' es k
  | 0 => rfl
  | k + 1 => by unfold plK evStep; rw [spF_congr h, plK_congr st es k]
end

/-! What is put out stays. -/
theorem lvF_pre (st : List StP) (left : List Bool) : ∀ (k : Nat) (p : Py), p.out <+: (lvF st left k p).out
  | 0, p => List.prefix_refl _
  | k + 1, p => by
    rw [lvF]
    split
    · have h1 := lvF_pre st left k { p with act := p.act.set k false, out := p.out ++ bls (leaveAt st k) }
      exact List.IsPrefix.trans (List.prefix_append p.out (bls (leaveAt st k))) h1
    · exact lvF_pre st left k p
theorem itF_pre (g : Nat → Py → Py) (hg : ∀ i p, p.out <+: (g i p).out) : ∀ (n i : Nat) (p : Py), p.out <+: (itF g n i p).out
  | 0, i, p => List.prefix_refl _
  | n + 1, i, p => (hg i p).trans (itF_pre g hg n (i + 1) (g i p))
theorem enF_pre (st : List StP) : ∀ (f s : Nat) (a : Am) (p : Py), p.out <+: (enF st f s a p).out
  | 0, s, a, p => List.prefix_refl _
  | f + 1, s, a, p => by
    rw [enF]
    split
    · exact List.prefix_refl _
    · rename_i x hx
      have h1 : p.out <+: ({ p with act := p.act.set s true, out := p.out ++ bls x.enter } : Py).out := List.prefix_append _ _
      split
      · refine h1.trans (itF_pre _ ?_ _ _ _)
        intro i q
        split
        · exact enF_pre st f i a q
        · exact List.prefix_refl _
      · split
        · exact h1.trans (enF_pre st f _ _ _)
        · exact h1
theorem tkF_pre (st : List StP) (t : TrQ) (p : Py) : p.out <+: (tkF st t p).out := by
  unfold tkF
  refine List.IsPrefix.trans ?_ (enF_pre st 26 _ _ _)
  refine List.IsPrefix.trans ?_ (List.prefix_append _ _)
  have h := lvF_pre st (lefB st p.act t) st.length (rmF st (lefB st p.act t) st.length p)
  rw [rmF_out] at h
  exact h
theorem fold_pre (st : List StP) (th : List TrH) : ∀ (ns : List Nat) (p : Py), p.out <+: (ns.foldl (tk1 st th) p).out
  | [], p => List.prefix_refl _
  | n :: ns, p => by
    refine List.IsPrefix.trans ?_ (fold_pre st th ns _)
    unfold tk1; split
    · exact tkF_pre _ _ _
    · exact List.prefix_refl _
theorem plK_pre1 (st : List StP) (th : List TrH) (es : ByteArray) (k : Nat) : (plK st th es k).out ++ [46] <+: (plK st th es (k + 1)).out := fold_pre st th (tkn st th (plK st th es k).act (byte es k)) { plK st th es k with out := (plK st th es k).out ++ [46] }
theorem plK_pre (st : List StP) (th : List TrH) (es : ByteArray) (k : Nat) : ∀ j, (plK st th es k).out <+: (plK st th es (k + j)).out
  | 0 => List.prefix_refl _
  | j + 1 => (plK_pre st th es k j).trans ((List.prefix_append _ _).trans (plK_pre1 st th es (k + j)))
/-- What comes behind does not matter. -/
theorem plK_app (st : List StP) (th : List TrH) (a b : ByteArray) : ∀ k, k ≤ a.size → plK st th (a ++ b) k = plK st th a k
  | 0, _ => rfl
  | k + 1, h => by
    have e : byte (a ++ b) k = byte a k := by
      rw [byte_in _ _ (by rw [ByteArray.size_append]; omega), byte_in _ _ (by omega), ByteArray.getElem_append_left (by omega)]
    unfold plK; rw [plK_app st th a b k (by omega), e]

/-! The outermost state is active. -/
def Rt (p : Py) : Prop := mem p.act 0 = true
theorem mem_set (l : List Bool) (k : Nat) (v : Bool) (i : Nat) : mem (l.set k v) i = if k = i ∧ i < l.length then v else mem l i := by
  unfold mem
  rw [List.getElem?_set]
  by_cases h : k = i
  · by_cases hi : i < l.length
    · simp [h, hi]
    · simp [h, hi]
  · simp [h]
theorem itF_rt (g : Nat → Py → Py) (hg : ∀ i p, Rt p → Rt (g i p)) : ∀ (n i : Nat) (p : Py), Rt p → Rt (itF g n i p)
  | 0, i, p, h => h
  | n + 1, i, p, h => itF_rt g hg n (i + 1) (g i p) (hg i p h)
theorem Rt.set {p : Py} (h : Rt p) (s : Nat) (o : List UInt8) : Rt { p with act := p.act.set s true, out := o } := by
  show mem (p.act.set s true) 0 = true
  rw [mem_set]; split
  · rfl
  · exact h
theorem enF_rt (st : List StP) : ∀ (f s : Nat) (a : Am) (p : Py), Rt p → Rt (enF st f s a p)
  | 0, s, a, p, h => h
  | f + 1, s, a, p, h => by
    rw [enF]
    split
    · exact h
    · rename_i x hx
      have h1 := h.set s (p.out ++ bls x.enter)
      split
      · refine itF_rt _ ?_ _ _ _ h1
        intro i q hq
        split
        · exact enF_rt st f i a q hq
        · exact hq
      · split
        · exact enF_rt st f _ _ _ h1
        · exact h1
theorem enF_rt0 (st : List StP) (f : Nat) (a : Am) (p : Py) (hs : 0 < st.length) (hl : p.act.length = 26) : Rt (enF st (f + 1) 0 a p) := by
  have h1 : ∀ o, Rt { p with act := p.act.set 0 true, out := o } := by
    intro o
    show mem (p.act.set 0 true) 0 = true
    rw [mem_set, if_pos ⟨rfl, by omega⟩]
  rw [enF]
  split
  · rename_i hx
    rw [List.getElem?_eq_getElem hs] at hx; cases hx
  · rename_i x hx
    split
    · refine itF_rt _ ?_ _ _ _ (h1 _)
      intro i q hq
      split
      · exact enF_rt st f i a q hq
      · exact hq
    · split
      · exact enF_rt st f _ _ _ (h1 _)
      · exact h1 _
theorem rmF_act (st : List StP) (left : List Bool) : ∀ (k : Nat) (p : Py), (rmF st left k p).act = p.act
  | 0, p => rfl
  | k + 1, p => by
    rw [rmF, rmS]
    split
    · split
      · exact rmF_act st left k p
      · exact rmF_act st left k p
    · exact rmF_act st left k p
theorem lvF_len (st : List StP) (left : List Bool) : ∀ (k : Nat) (p : Py), (lvF st left k p).act.length = p.act.length
  | 0, p => rfl
  | k + 1, p => by
    rw [lvF]
    split
    · rw [lvF_len st left k]; simp
    · exact lvF_len st left k p
theorem lvF_rt (st : List StP) (left : List Bool) (h0 : mem left 0 = false) : ∀ (k : Nat) (p : Py), Rt p → Rt (lvF st left k p)
  | 0, p, h => h
  | k + 1, p, h => by
    rw [lvF]
    split
    · rename_i hk
      refine lvF_rt st left h0 k _ ?_
      show mem (p.act.set k false) 0 = true
      rw [mem_set, if_neg (fun e => by rw [e.1, h0] at hk; cases hk)]
      exact h
    · exact lvF_rt st left h0 k p h
theorem mem_belK (act : List Bool) (o k : Nat) : mem (belK act o k) 0 = false := by
  simp [mem, belK]
theorem tkF_rt (st : List StP) (t : TrQ) (p : Py) (hs : 0 < st.length) (hl : p.act.length = 26) (h : Rt p) : Rt (tkF st t p) := by
  unfold tkF
  by_cases hc : scOf st t = -1
  · have e : fiOf st t = 0 := by rw [fiOf, if_pos hc]
    rw [e]
    refine enF_rt0 st 25 _ _ hs ?_
    show (lvF st (lefB st p.act t) st.length (rmF st (lefB st p.act t) st.length p)).act.length = 26
    rw [lvF_len, rmF_act]; exact hl
  · refine enF_rt st 26 _ _ _ ?_
    have e : lefB st p.act t = actB st p.act (scOf st t).toNat := by rw [lefB, if_neg hc]
    show Rt (lvF st (lefB st p.act t) st.length (rmF st (lefB st p.act t) st.length p))
    refine lvF_rt st _ (by rw [e]; exact mem_belK _ _ _) _ _ ?_
    show mem (rmF st (lefB st p.act t) st.length p).act 0 = true
    rw [rmF_act]; exact h
end Go.Proofs.Ytmolmbeeoecnfaa
