/- Own work: the player's first status in memory: laws for a great record. -/
import Derived.Test.YtmolmbeeoecnfaaPyM
import Derived.Laws.Tables
namespace Go.Proofs.Ytmolmbeeoecnfaa
open Go.RowKit Go.BigFrame
set_option linter.unusedVariables false
set_option linter.unusedSimpArgs false

def py0 : Py := ⟨noSet, List.replicate 26 noSet, []⟩
theorem py0_ok : PyOk py0 := ⟨rfl, rfl, by intro m hm; simp only [py0, List.mem_replicate] at hm; rw [hm.2]; rfl⟩
def nilV : Value := .slice none 0 0
def pyA (v2 v3 : Value) : Array Value := (pyC ⟨v2, v3, []⟩ py0 nilV).toArray
set_option maxRecDepth 1000000 in
theorem built_py (v2 v3 : Value) : Try.prog.built 78 [(0, .agg #[v2, v3])] = some (pyA v2 v3) := by kernel_rfl
set_option maxRecDepth 1000000 in
theorem zero_py : (Try.prog.info? 78).bind (·.zero) = some (.agg (pyA nilV nilV)) := by kernel_rfl
theorem size_py : (Try.prog.info? 78).map (·.size) = some 705 := by kernel_rfl
theorem size_now : (Try.prog.info? 76).map (·.size) = some 702 := by kernel_rfl
theorem pyA_size (v2 v3 : Value) : (pyA v2 v3).size = 705 := by rw [pyA, List.size_toArray, pyC_len py0_ok]
theorem wpList_bldP {ops : Array Oper} {rest : List Oper} {o : Oper} {a : Act} {w : World} {Q : Exit → Act → World → Prop} (hg : o.guard = none) (x : Operand) (ho : o.op = .build 78 #[(0, x)]) (v2 v3 : Value) (hx : a.eval x = .agg #[v2, v3])
    (h : wpList Try.prog ops Q rest (a.put o.dst (.agg (pyA v2 v3))) w) : wpList Try.prog ops Q (o :: rest) a w := by
  have e : (#[((0 : Nat), x)].map fun (i, x) => (i, a.eval x)).toList = [(0, .agg #[v2, v3])] := by simp [hx]
  refine wpList_build (P := Try.prog) hg _ _ ho (by rw [e, built_py]; rfl) ?_
  rw [e, built_py]
  exact h
theorem wpList_alcP {ops : Array Oper} {rest : List Oper} {o : Oper} {a : Act} {w : World} {Q : Exit → Act → World → Prop} (hg : o.guard = none) (ho : o.op = .alloc 78)
    (h : wpList Try.prog ops Q rest (a.put o.dst (.pointer (some ⟨w.heap.size, 0, none⟩))) (w.alloc (.cells (pyA nilV nilV) 78))) : wpList Try.prog ops Q (o :: rest) a w := by
  refine wpList_plain hg fun K hK => ?_
  obtain ⟨i, hi, hz⟩ : ∃ i, Try.prog.info? 78 = some i ∧ i.zero = some (.agg (pyA nilV nilV)) := by
    have h1 := zero_py
    cases h2 : Try.prog.info? 78 with
    | none => rw [h2] at h1; cases h1
    | some i => rw [h2] at h1; exact ⟨i, rfl, h1⟩
  generalize pyA nilV nilV = Z at *
  unfold Oper.wp execOp
  have hr : (Instr.alloc 78 true (.tuple #[])).run Try.prog w = .ok (.pointer (some ⟨w.heap.size, 0, none⟩)) (w.alloc (.cells Z 78)) := by
    simp [Instr.alloc, zeroValue, typeInfo, hi, hz, newVar, newRow, Value.cells]
  simp only [ho, Sem.run_bind, Sem.run_pure, hr, Result.andThen_ok]
  exact hK _ _ h
theorem wpList_stoP {ops : Array Oper} {rest : List Oper} {op : Oper} {a : Act} {w : World} {Q : Exit → Act → World → Prop} (hgd : op.guard = none) (x y : Operand) (ho : op.op = .store 78 x y)
    (w0 : World) (b : Nat) (v2 v3 : Value) (hx : a.eval x = .pointer (some ⟨b, 0, none⟩)) (hy : a.eval y = .agg (pyA v2 v3)) (hw : w = w0.alloc (.cells (pyA nilV nilV) 78)) (hb : b = w0.heap.size) (h1 : (pyA v2 v3).all (·.oneCell') = true)
    (h : wpList Try.prog ops Q rest (a.put op.dst undef) (w0.alloc (.cells (pyA v2 v3) 78))) : wpList Try.prog ops Q (op :: rest) a w := by
  refine wpList_plain hgd fun K hK => ?_
  unfold Oper.wp execOp
  have hrun := run_storeVar_new (P := Try.prog) w0 78 (pyA nilV nilV) (pyA v2 v3) (by rw [size_py, pyA_size]) (by rw [pyA_size, pyA_size]) h1
  rw [← hb, ← hw] at hrun
  simp only [ho, hx, hy, Instr.storeAt, Instr.sureAddr, Sem.run_bind, Sem.run_pure, Result.andThen_ok, hrun]
  exact hK _ _ h
theorem one_py {v2 v3 : Value} (h2 : v2.oneCell' = true) (h3 : v3.oneCell' = true) : (pyA v2 v3).all (·.oneCell') = true := by
  rw [Array.all_eq_true_iff_forall_mem]
  intro v hv
  simp only [pyA, pyC, List.mem_toArray, List.mem_append, List.mem_cons, List.not_mem_nil, or_false] at hv
  rcases hv with (rfl | rfl) | hv | hv | rfl
  · exact h2
  · exact h3
  · simp only [bV, List.mem_map] at hv; obtain ⟨_, _, rfl⟩ := hv; rfl
  · simp only [mmC, List.mem_flatMap, bV, List.mem_map] at hv; obtain ⟨_, _, _, _, rfl⟩ := hv; rfl
  · rfl
theorem PyV.rnow {w : World} {b : Nat} {st : List StP} {ws : Ws} {p : Py} {vo : Value} (h : PyV w b st ws p vo) : w.rangeAt b 2 (nowC p.act p.mm) := fun j v hv => by
  have hj := (List.getElem?_eq_some_iff.1 hv).1
  rw [Blk.cell h.blk, ← hv, List.getElem?_toArray, pyC, List.getElem?_append_right (by simp), nowC, ← List.append_assoc, List.getElem?_append_left (by simpa [nowC] using hj)]
  congr 1
  simp
end Go.Proofs.Ytmolmbeeoecnfaa
