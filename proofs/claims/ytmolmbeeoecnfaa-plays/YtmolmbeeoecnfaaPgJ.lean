/- Own work: walks of the document's game: enter. -/
import Derived.Test.YtmolmbeeoecnfaaPgI
import Derived.Test.YtmolmbeeoecnfaaPgPZ
namespace Go.Proofs.Ytmolmbeeoecnfaa
open Go.RowKit Go.BigFrame
set_option linter.unusedVariables false
set_option linter.unusedSimpArgs false

section
variable {w : World} {M : GM} {on : List Bool} {me : List ByteArray} {o : ByteArray}
theorem Gm.setOut (h : Gm w M on me o) (o' : ByteArray) : Gm (w.setCell ⟨M.gb, 6, none⟩ (.string o')) M on me o' := by
  have hf : Fr (· = M.gb) w (w.setCell ⟨M.gb, 6, none⟩ (.string o')) := Fr.setCell (· = M.gb) w _ _ rfl
  refine ⟨h.ct.fr hf (fun e => h.n3.1 e) (fun k hk e => (h.n4 k hk).1 e), Blk.set h.blk 6 _, Blk.fr h.bo hf (fun e => h.d1 e.symm), Blk.fr h.bm hf (fun e => h.d2 e.symm), h.lo, h.lm, h.d1, h.d2, h.d3, h.n3, h.n4⟩
theorem Gm.setOn (h : Gm w M on me o) (i : Nat) (v : Bool) : Gm (w.setCell ⟨M.ob, i, none⟩ (.bool v)) M (on.set i v) me o := by
  have hf : Fr (· = M.ob) w (w.setCell ⟨M.ob, i, none⟩ (.bool v)) := Fr.setCell (· = M.ob) w _ _ rfl
  have hb : Blk (w.setCell ⟨M.ob, i, none⟩ (.bool v)) M.ob (bV (on.set i v)).toArray 4 := by
    have h1 := Blk.set h.bo i (.bool v)
    have e : (bV on).toArray.setIfInBounds i (.bool v) = (bV (on.set i v)).toArray := by simp [bV, List.map_set]
    rwa [e] at h1
  refine ⟨h.ct.fr hf (fun e => h.n3.2.1 e) (fun k hk e => (h.n4 k hk).2.1 e), Blk.fr h.blk hf (fun e => h.d1 e), hb, Blk.fr h.bm hf (fun e => h.d3 e.symm), by rw [List.length_set]; exact h.lo, h.lm, h.d1, h.d2, h.d3, h.n3, h.n4⟩
theorem Gm.setMe (h : Gm w M on me o) (i : Nat) (v : ByteArray) : Gm (w.setCell ⟨M.mb, i, none⟩ (.string v)) M on (me.set i v) o := by
  have hf : Fr (· = M.mb) w (w.setCell ⟨M.mb, i, none⟩ (.string v)) := Fr.setCell (· = M.mb) w _ _ rfl
  have hb : Blk (w.setCell ⟨M.mb, i, none⟩ (.string v)) M.mb ((me.set i v).map Value.string).toArray 9 := by
    have h1 := Blk.set h.bm i (.string v)
    have e : (me.map Value.string).toArray.setIfInBounds i (.string v) = ((me.set i v).map Value.string).toArray := by simp [List.map_set]
    rwa [e] at h1
  refine ⟨h.ct.fr hf (fun e => h.n3.2.2 e) (fun k hk e => (h.n4 k hk).2.2 e), Blk.fr h.blk hf (fun e => h.d2 e), Blk.fr h.bo hf (fun e => h.d3 e), hb, h.lo, by rw [List.length_set]; exact h.lm, h.d1, h.d2, h.d3, h.n3, h.n4⟩
end
/-- The three blocks that a game writes. -/
def OwnG (M : GM) (k : Nat) : Prop := k = M.gb ∨ k = M.ob ∨ k = M.mb
theorem onOf_set (n : Nat) (act : List Bool) (i : Nat) (v : Bool) (h : i < n) (hl : n ≤ act.length) : (onOf n act).set i v = onOf n (act.set i v) := by
  apply List.ext_getElem?
  intro j
  rw [List.getElem?_set]
  by_cases hj : j < n
  · by_cases e : i = j
    · subst e
      have : mem (act.set i v) i = v := mem_set_self (by omega) v
      simp [onOf, h, this]
    · have : mem (act.set i v) j = mem act j := mem_set_ne e v
      simp [onOf, hj, e, this]
  · have h1 : (onOf n act)[j]? = none := List.getElem?_eq_none (by rw [onOf_len]; omega)
    have h2 : (onOf n (act.set i v))[j]? = none := List.getElem?_eq_none (by rw [onOf_len]; omega)
    rw [h1, h2]
    by_cases e : i = j
    · omega
    · simp [e]
/-- The document's game stands where the player stands. -/
def GmP (w : World) (M : GM) (st : List StP) (p : Py) : Prop := Gm w M (onOf M.c.sts.length p.act) (meOf st p.mm) ⟨p.out.toArray⟩ ∧ p.act.length = 26
/-- The contract of enter; f: fuel. -/
def DeC (M : GM) (st : List StP) (f : Nat) : Prop := ∀ (w : World) (p : Py) (s : Nat) (a : Am), GmP w M st p → s < st.length → st.length - s ≤ f → AmE st p.mm a s → MemI st p.mm → p.out.length + 160 * 2 ^ (25 - s) ≤ 70000000000000 →
  Calls Try.prog 54 #[.pointer (some ⟨M.gb, 0, none⟩), .int .i64 s, .agg (aimA st p.mm a)] w fun e w' => e = .returned (.tuple #[]) ∧ (enF st f s a p).out.length ≤ p.out.length + 160 * 2 ^ (25 - s) ∧ GmP w' M st (enF st f s a p) ∧ Fr (OwnG M) w w'
/-- What is asked of the plan, once and for all. -/
structure PlD (M : GM) (st : List StP) : Prop where
  k : Lk M.c.sts st
  t : Tr st
  n : NmD st
  z : SzOk st
  r : ∀ (k : Nat) (x : StP), st[k]? = some x → x.rem = true → x.kind = 1
  e : ∀ (k : Nat) (x : StR) (y : StP), M.c.sts[k]? = some x → st[k]? = some y → x.enter = y.enter ∧ x.leave = y.leave
theorem out_app (l : List UInt8) (a : ByteArray) : (⟨l.toArray⟩ : ByteArray) ++ a = ⟨(l ++ bls a).toArray⟩ := by
  apply ByteArray.ext
  rw [ByteArray.data_append]
  apply Array.toList_inj.1
  simp [bls]
theorem GmP.fr0 {w w' : World} {M : GM} {st : List StP} {p : Py} (h : GmP w M st p) (f : Fr (fun _ => False) w w') : GmP w' M st p := ⟨h.1.fr0 f, h.2⟩
end Go.Proofs.Ytmolmbeeoecnfaa
