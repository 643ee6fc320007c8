/- Own work: plain facts for the document's Play: what a right chart gives. -/
import Derived.Test.YtmolmbeeoecnfaaPgSZ
import Derived.Test.YtmolmbeeoecnfaaPgWZ
namespace Go.Proofs.Ytmolmbeeoecnfaa
open Go.RowKit Go.BigFrame
set_option linter.unusedVariables false
set_option linter.unusedSimpArgs false

theorem un_pld {s : ByteArray} (h : (unE s).1 = 0) (M : GM) (hs : M.c.sts = (rd s).st) : PlD M (unSt s) := by
  refine ⟨by rw [hs]; exact un_lk h, (un_lg h ⟨#[]⟩).1, (un_names h).2, (plan_ok s h).sz, fun k x hx => (un_marks h k x hx).2.2, ?_⟩
  obtain ⟨h160, hK, hw, hv, hm⟩ := unE_ok h
  have hok : (rcR s).1 = true := by
    simp only [rcK, Bool.and_eq_true] at hK
    exact hK.1
  have hM := (rd_eq s).1 hok
  intro k x y hx hy
  rw [hs, hM.st, List.getElem?_map] at hx
  obtain ⟨z, hz, hsm⟩ := (un_sm h).2 k y hy
  rw [hz] at hx
  simp only [Option.map_some, Option.some.injEq] at hx
  subst hx
  exact ⟨hsm.en.symm, hsm.le.symm⟩
theorem un_mkr {s : ByteArray} (h : (unE s).1 = 0) (M : GM) (ht : M.c.trs = (rd s).tr) : MkR M (unSt s) := by
  intro k x hx
  rw [ht]
  exact ⟨(un_marks h k x hx).1, (un_marks h k x hx).2.1⟩
theorem un_thm {s : ByteArray} (h : (unE s).1 = 0) : ThM (unSt s) (th0 s) := by
  intro k t ht
  have hp := plan_ok s h
  have hMk : MkS (rcR s).2 := MkS.rsF _ _ _ _ (fun t ht => by simp [R0] at ht)
  unfold th0 unTr at ht
  rw [List.map_map, List.getElem?_map] at ht
  cases hq : (rcR s).2.tr[k]? with
  | none => rw [hq] at ht; cases ht
  | some q0 =>
    rw [hq] at ht
    simp only [Option.map_some, Option.some.injEq] at ht
    subst ht
    have hmem : resQ (rcR s).2.st q0 ∈ unTr s := List.mem_map.2 ⟨q0, List.mem_of_getElem? hq, rfl⟩
    obtain ⟨p1, p2, p3, p4⟩ := hp.trs _ hmem
    refine ⟨hMk q0 (List.mem_of_getElem? hq), fun h42 => ?_, p4⟩
    have hlt : (resQ (rcR s).2.st q0).ts.toNat < (unSt s).length := by
      obtain ⟨a1, a2, a3⟩ := p1
      omega
    obtain ⟨x, hx⟩ : ∃ x, (unSt s)[(resQ (rcR s).2.st q0).ts.toNat]? = some x := ⟨_, List.getElem?_eq_getElem hlt⟩
    obtain ⟨y, hy, -⟩ := (un_sm h).2 _ x hx
    obtain ⟨m1, -⟩ := mark_at _ _ _ x y hx hy
    refine ⟨x, hx, ?_⟩
    rw [m1, Bool.or_eq_true]
    right
    rw [List.any_eq_true]
    refine ⟨resQ (rcR s).2.st q0, hmem, ?_⟩
    simp only [Bool.and_eq_true, beq_iff_eq]
    exact ⟨h42, trivial⟩
theorem fold_ml (st : List StP) (th : List TrH) : ∀ (ns : List Nat) (p : Py), (ns.foldl (tk1 st th) p).mm.length = p.mm.length
  | [], p => rfl
  | n :: ns, p => by
    rw [List.foldl_cons, fold_ml st th ns]
    unfold tk1
    split
    · exact tkF_ml _ _
    · rfl
theorem plK_ml (st : List StP) (th : List TrH) (es : ByteArray) : ∀ k, (plK st th es k).mm.length = 26
  | 0 => by
    show (enF st 26 0 Am.free py0).mm.length = 26
    rw [enF_mm st py0.mm 26 0 Am.free py0 rfl]
    rfl
  | k + 1 => by
    show ((tkn st th (plK st th es k).act (byte es k)).foldl (tk1 st th) { plK st th es k with out := (plK st th es k).out ++ [46] }).mm.length = 26
    rw [fold_ml]
    exact plK_ml st th es k
end Go.Proofs.Ytmolmbeeoecnfaa
