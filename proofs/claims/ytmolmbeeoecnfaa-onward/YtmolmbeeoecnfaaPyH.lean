/- Own work: walks of the player: enter, ahead of it the plain side. -/
import Derived.Test.YtmolmbeeoecnfaaPyG
namespace Go.Proofs.Ytmolmbeeoecnfaa
open Go.RowKit Go.BigFrame
set_option linter.unusedVariables false
set_option linter.unusedSimpArgs false

/-- n rounds from i on. -/
def itF (g : Nat → Py → Py) : Nat → Nat → Py → Py
  | 0, _, p => p
  | n + 1, i, p => itF g n (i + 1) (g i p)
def enF (st : List StP) : Nat → Nat → Am → Py → Py
  | 0, _, _, p => p
  | f + 1, s, a, p => match st[s]? with
    | none => p
    | some x =>
      if x.kind = 2 then itF (fun i q => if outAt st i = (s : Int) then enF st f i a q else q) (x.end_ - (s + 1)) (s + 1) { p with act := p.act.set s true, out := p.out ++ bls x.enter }
      else if x.kind = 1 then enF st f (chP st p.mm s a).1 (chP st p.mm s a).2 { p with act := p.act.set s true, out := p.out ++ bls x.enter }
      else { p with act := p.act.set s true, out := p.out ++ bls x.enter }
theorem enF_and {st : List StP} {s : Nat} {x : StP} (h : st[s]? = some x) (hk : x.kind = 2) (f : Nat) (a : Am) (p : Py) : enF st (f + 1) s a p = itF (fun i q => if outAt st i = (s : Int) then enF st f i a q else q) (x.end_ - (s + 1)) (s + 1) { p with act := p.act.set s true, out := p.out ++ bls x.enter } := by
  rw [enF, h]; simp only; rw [if_pos hk]
theorem enF_or {st : List StP} {s : Nat} {x : StP} (h : st[s]? = some x) (hk : x.kind = 1) (f : Nat) (a : Am) (p : Py) : enF st (f + 1) s a p = enF st f (chP st p.mm s a).1 (chP st p.mm s a).2 { p with act := p.act.set s true, out := p.out ++ bls x.enter } := by
  rw [enF, h]; simp only; rw [if_neg (by rw [hk]; decide), if_pos hk]
theorem enF_leaf {st : List StP} {s : Nat} {x : StP} (h : st[s]? = some x) (h2 : x.kind ≠ 2) (h1 : x.kind ≠ 1) (f : Nat) (a : Am) (p : Py) : enF st (f + 1) s a p = { p with act := p.act.set s true, out := p.out ++ bls x.enter } := by
  rw [enF, h]; simp only; rw [if_neg h2, if_neg h1]

theorem inAm_in2 {st : List StP} (hw : Wf st) {s : Nat} {x : StP} (hx : st[s]? = some x) (hk : x.kind ≠ 0) (l : List Bool) : s < inAm st s l ∧ inAm st s l < st.length := by
  have h3 := hw.en s x hx
  have h4 := hw.inn s x hx hk
  unfold inAm
  rcases firstB_spec (inA st s l) (endAt st s) with ⟨h1, -⟩ | ⟨k, h1, h2, h5, -⟩
  · rw [h1]; show s < s + 1 ∧ s + 1 < _; omega
  · rw [h1]
    rw [endAt_at hx] at h2
    simp only [inA, Bool.and_eq_true, decide_eq_true_eq] at h5
    show s < k ∧ k < _
    omega
theorem inTo_in2 {st : List StP} (hw : Wf st) {s : Nat} {x : StP} (hx : st[s]? = some x) (hk : x.kind ≠ 0) (t : Nat) : s < inTo st s t ∧ inTo st s t < st.length := by
  have h3 := hw.en s x hx
  have h4 := hw.inn s x hx hk
  unfold inTo
  rcases firstB_spec (inT st s t) (endAt st s) with ⟨h1, -⟩ | ⟨k, h1, h2, h5, -⟩
  · rw [h1]; show s < s + 1 ∧ s + 1 < _; omega
  · rw [h1]
    rw [endAt_at hx] at h2
    simp only [inT, Bool.and_eq_true, decide_eq_true_eq] at h5
    show s < k ∧ k < _
    omega
theorem chP_ok {st : List StP} (hw : Wf st) {s : Nat} {x : StP} (hx : st[s]? = some x) (hk : x.kind ≠ 0) (mm : List (List Bool)) (a : Am) (ha : AmOk st a) : s < (chP st mm s a).1 ∧ (chP st mm s a).1 < st.length ∧ AmOk st (chP st mm s a).2 := by
  have h3 := hw.en s x hx
  have h4 := hw.inn s x hx hk
  have hf : AmOk st Am.free := by refine ⟨?_, ?_, ?_, ?_⟩ <;> simp only [Am.free] <;> omega
  have hs : AmOk st ⟨-1, 0, s⟩ := by refine ⟨?_, ?_, ?_, ?_⟩ <;> simp only <;> omega
  unfold chP
  split
  · exact ⟨(inAm_in2 hw hx hk _).1, (inAm_in2 hw hx hk _).2, ha⟩
  · split
    · exact ⟨by show s < s + 1; omega, by show s + 1 < _; omega, hf⟩
    · split
      · exact ⟨(inTo_in2 hw hx hk _).1, (inTo_in2 hw hx hk _).2, ha⟩
      · split
        · exact ⟨by show s < s + 1; omega, by show s + 1 < _; omega, hf⟩
        · split
          · exact ⟨(inAm_in2 hw hx hk _).1, (inAm_in2 hw hx hk _).2, hs⟩
          · exact ⟨(inAm_in2 hw hx hk _).1, (inAm_in2 hw hx hk _).2, hf⟩

/-- What a state's entry asks and keeps, with fuel f. -/
def EnC (st : List StP) (ws : Ws) (b f : Nat) : Prop := ∀ (w : World) (p : Py) (vo : Value) (s : Nat) (a : Am), PyV w b st ws p vo → s < st.length → st.length - s ≤ f → AmOk st a → p.out.length + 160 * 2 ^ (25 - s) ≤ 70000000000000 →
    Calls Try.prog 48 #[.pointer (some ⟨b, 0, none⟩), .int .i64 s, .agg a.cells.toArray] w fun e w' => e = .returned (.tuple #[]) ∧ (enF st f s a p).out.length ≤ p.out.length + 160 * 2 ^ (25 - s) ∧ ∃ vo', PyV w' b st ws (enF st f s a p) vo' ∧ EvY b vo vo' w w'
theorem pow_half {i : Nat} (h : i ≤ 25) : 160 * 2 ^ (26 - i) = 160 * 2 ^ (25 - i) + 160 * 2 ^ (25 - i) := by
  rw [show 26 - i = (25 - i) + 1 by omega, Nat.pow_succ]; omega
theorem pow_mono {i j : Nat} (h : i ≤ j) : 2 ^ (25 - j) ≤ 2 ^ (25 - i) := Nat.pow_le_pow_right (by decide) (by omega)
end Go.Proofs.Ytmolmbeeoecnfaa
