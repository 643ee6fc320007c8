/- Own work: CoW7. -/
import Derived.Test.YtmolmbeeoecnfaaGreatDoorF28
/- Own work: walks of the compiler: compile. -/
namespace Go.Proofs.YtmolmbeeoecnfaaGreatDoor
open Go.RowKit Go.BigFrame
set_option linter.unusedVariables false
set_option linter.unusedSimpArgs false

theorem yieldsIf_build {ops : Array Oper} {S : World → Prop} {o : Oper} {a : Act} (hw : Region.wanted o (yielded ops a.tmps) = true) (t : TypeId) (parts : Array (Nat × Operand)) (ho : o.op = .build t parts) (cells : Array Value)
  (hb : Tryz.prog.built t (parts.map fun (i, x) => (i, a.eval x)).toList = some cells) : YieldsIf Tryz.prog ops S o (.agg cells) a :=
 .inl ⟨hw, fun w _ => by
  unfold execOp
  simp only [ho, Sem.run_bind, run_build w t _ cells hb, Result.andThen_ok, Sem.run_pure]⟩
theorem yields_py {ops : Array Oper} {S : World → Prop} {o : Oper} {a : Act} (hw : Region.wanted o (yielded ops a.tmps) = true) (x : Operand) (ho : o.op = .build 84 #[(0, x)]) (v2 v3 : Value) (hx : a.eval x = .agg #[v2, v3]) : YieldsIf Tryz.prog ops S o (.agg (pyA v2 v3)) a := by
 have e : (#[((0 : Nat), x)].map fun (i, x) => (i, a.eval x)).toList = [(0, .agg #[v2, v3])] := by simp [hx]
 exact yieldsIf_build hw _ _ ho _ (by rw [e, built_py])
theorem yields_co {ops : Array Oper} {S : World → Prop} {o : Oper} {a : Act} (hw : Region.wanted o (yielded ops a.tmps) = true) (x y : Operand) (ho : o.op = .build 87 #[(0, x), (1, y)]) (v2 v3 : Value) (es : ByteArray) (hx : a.eval x = .agg (pyA v2 v3)) (hy : a.eval y = .string es) : YieldsIf Tryz.prog ops S o (.agg (coA v2 v3 es)) a := by
 have e : (#[((0 : Nat), x), ((1 : Nat), y)].map fun (i, x) => (i, a.eval x)).toList = [(0, .agg (pyA v2 v3)), (1, .string es)] := by simp [hx, hy]
 exact yieldsIf_build hw _ _ ho _ (by rw [e, built_co])
theorem step_alcC {w : World} {ops : Array Oper} {o : Oper} {a : Act} {K : Act → World → Prop} {Q : Exit → Act → World → Prop} {E : Prop} (hgd : o.guard = none) (ho : o.op = .alloc 87)
  (h : K (a.put o.dst (.pointer (some ⟨w.heap.size, 0, none⟩))) (w.alloc (.cells (coA nilV nilV ⟨#[]⟩) 87))) : if Region.wanted o (yielded ops a.tmps) = true then Oper.wp Tryz.prog o a w K Q else E := by
 have hw : Region.wanted o (yielded ops a.tmps) = true := by simp [Region.wanted, hgd]
 rw [if_pos hw]
 obtain ⟨i, hi, hz⟩ : ∃ i, Tryz.prog.info? 87 = some i ∧ i.zero = some (.agg (coA nilV nilV ⟨#[]⟩)) := by
  have h1 := zero_co
  cases h2 : Tryz.prog.info? 87 with
  | none => rw [h2] at h1; cases h1
  | some i => rw [h2] at h1; exact ⟨i, rfl, h1⟩
 generalize coA nilV nilV ⟨#[]⟩ = Z at *
 unfold Oper.wp execOp
 have hr : (Instr.alloc 87 true (.tuple #[])).run Tryz.prog w = .ok (.pointer (some ⟨w.heap.size, 0, none⟩)) (w.alloc (.cells Z 87)) := by
  simp [Instr.alloc, zeroValue, typeInfo, hi, hz, newVar, newRow, Value.cells]
 simp only [ho, Sem.run_bind, Sem.run_pure, hr, Result.andThen_ok]
 exact h
theorem step_stoC {w : World} {ops : Array Oper} {op : Oper} {a : Act} {K : Act → World → Prop} {Q : Exit → Act → World → Prop} {E : Prop} (hgd : op.guard = none) (x y : Operand) (ho : op.op = .store 87 x y)
  (w0 : World) (b : Nat) (v2 v3 : Value) (es : ByteArray) (hx : a.eval x = .pointer (some ⟨b, 0, none⟩)) (hy : a.eval y = .agg (coA v2 v3 es)) (hw : w = w0.alloc (.cells (coA nilV nilV ⟨#[]⟩) 87)) (hb : b = w0.heap.size) (h1 : (coA v2 v3 es).all (·.oneCell') = true)
  (h : K (a.put op.dst undef) (w0.alloc (.cells (coA v2 v3 es) 87))) : if Region.wanted op (yielded ops a.tmps) = true then Oper.wp Tryz.prog op a w K Q else E := by
 have hwt : Region.wanted op (yielded ops a.tmps) = true := by simp [Region.wanted, hgd]
 rw [if_pos hwt]
 unfold Oper.wp execOp
 have hrun := run_storeVar_new (P := Tryz.prog) w0 87 (coA nilV nilV ⟨#[]⟩) (coA v2 v3 es) (by rw [size_co, coA_size]) (by rw [coA_size, coA_size]) h1
 rw [← hb, ← hw] at hrun
 simp only [ho, hx, hy, Instr.storeAt, Instr.sureAddr, Sem.run_bind, Sem.run_pure, Result.andThen_ok, hrun]
 exact h

theorem step_store_mid {P : Program} {w : World} {ops : Array Oper} {op : Oper} {a : Act} {K : Act → World → Prop} {Q : Exit → Act → World → Prop} {E : Prop} (hgd : op.guard = none) (ty : TypeId) (x y : Operand) (ho : op.op = .store ty x y)
  (b o : Nat) (cells : Array Value) (hx : a.eval x = .pointer (some ⟨b, o, none⟩)) (hy : a.eval y = .agg cells) (ht : w.there b o cells.size) (hi : (P.info? ty).map (·.size) = some cells.size) (h1 : cells.all (·.oneCell') = true)
  (h : K (a.put op.dst undef) (w.setCells b o cells.toList)) : if Region.wanted op (yielded ops a.tmps) = true then Oper.wp P op a w K Q else E := by
 have hw : Region.wanted op (yielded ops a.tmps) = true := by simp [Region.wanted, hgd]
 rw [if_pos hw]
 exact wp_store_mid ty x y ho b o cells hx hy ht hi h1 h

theorem elemStr : ElemOk Tryz.prog 55 9 1 16 where
 ht := Tryz.underlying55
 info := by
  obtain ⟨i, h0, h1, h2, h3⟩ := info_parts (show (Tryz.prog.info? 9).map (fun i => (i.zero, i.size, i.bytes)) = some (some (.string ⟨#[]⟩), 1, 16) by kernel_rfl)
  exact ⟨i, _, h0, h1, h2, h3, rfl⟩
 pos := by decide
section
variable {w : World} {b : Nat} {st : List StP} {v2 v3 : Value} {th : List TrH} {es : ByteArray} {p : Py} {vo vS vR : Value} {l : List Sx} {rows : List ByteArray}
theorem CoV.pushR {w2 : World} {g cap : Nat} (h : CoV w b st v2 v3 th es p vo vS vR l rows) (R : ByteArray)
  (hrow : w2.ownsRow 0 9 1 (.slice (some ⟨g, 0, none⟩) (rows.length + 1) cap) (rows.length + 1) (rows.map Value.string ++ [.string R])) (hgrow : w.grownBy w2 vR.ownBlock) (hgo : vR.ownBlock = some g ∨ w.heap.size ≤ g) :
  CoV (w2.setCell ⟨b, 707, none⟩ (.slice (some ⟨g, 0, none⟩) (rows.length + 1) cap)) b st v2 v3 th es p vo vS (.slice (some ⟨g, 0, none⟩) (rows.length + 1) cap) l (rows ++ [R]) ∧ Fr (fun k => b ≤ k) w (w2.setCell ⟨b, 707, none⟩ (.slice (some ⟨g, 0, none⟩) (rows.length + 1) cap)) := by
 have hbl := Blk.lt h.py.blk
 have hG : Fr (fun j => vR.ownBlock = some j) w w2 := Fr.grown _ hgrow (fun _ e => e)
 have hbg : b < g := by
  rcases hgo with e | e
  ·exact h.bR g e
  ·omega
 have hpy := h.py.fr hG (fun k hk e => by
  have h1 := h.bR k e
  rcases hk with (hk | hk) | hk
  ·omega
  ·exact h.dR k e hk
  ·have := h.py.np k hk; omega)
 have hS2 := row_fr h.rS hG (fun k hk e => (h.dS k hk).2 e)
 have hset : Fr (· = b) w2 (w2.setCell ⟨b, 707, none⟩ (.slice (some ⟨g, 0, none⟩) (rows.length + 1) cap)) := Fr.setCell (· = b) _ _ _ rfl
 refine ⟨⟨hpy.setTl 2 _, row_fr hS2 hset (fun k hk e => by have := h.bS k hk; omega), ?_, h.bS, ?_, ?_, ?_, h.lo⟩, ?_⟩
 ·have h1 := row_fr hrow hset (fun k hk e => by simp [Value.ownBlock] at hk; omega)
  rw [List.length_append, List.map_append]
  exact h1
 ·intro k hk; simp only [Value.ownBlock, Option.some.injEq] at hk; omega
 ·intro k hk
  refine ⟨(h.dS k hk).1, fun e => ?_⟩
  simp only [Value.ownBlock, Option.some.injEq] at e
  subst e
  rcases hgo with e2 | e2
  ·exact (h.dS g hk).2 e2
  ·have := (h.rS.lt g hk).2; omega
 ·intro k hk e
  simp only [Value.ownBlock, Option.some.injEq] at hk
  subst hk
  rcases hgo with e2 | e2
  ·exact h.dR g e2 e
  ·have := (h.py.roB g e).2; omega
 ·exact (hG.mono (fun k _ e => Nat.le_of_lt (h.bR k e))).thenr hset (fun k _ e => Nat.le_of_eq e.symm)
end

def coF (st : List StP) (th : List TrH) (es : ByteArray) (lim : Int) : Nat → List Sx → List ByteArray → Option (List Sx × List ByteArray)
 | 0, _, _ => none
 | f + 1, l, rows => match l[rows.length]? with
  | none => some (l, rows)
  | some x => if lim < (l.length : Int) then none else coF st th es lim f (ceK st th es x l es.size).1 (rows ++ [⟨(ceK st th es x l es.size).2.toArray⟩])
def begP (st : List StP) : Py := enF st 26 0 Am.free py0
def evS (th : List TrH) : ByteArray := ⟨(evP th 26).toArray⟩
def coR (st : List StP) (th : List TrH) (lim : Int) : Option ByteArray :=
 (coF st th (evS th) lim 100 [sxP (begP st)] []).map fun z => ⟨(taK (evS th) ⟨(begP st).out.toArray⟩ z.2 z.2.length).toArray⟩
def coV (r : Option ByteArray) : Value := match r with | some t => .tuple #[.string t, .bool true] | none => .tuple #[.string ⟨#[]⟩, .bool false]
theorem evS_size (th : List TrH) : (evS th).size ≤ 26 := by
 have := evP_len th 26
 show (evP th 26).toArray.size ≤ 26
 simpa using this

set_option maxRecDepth 100000 in
set_option maxHeartbeats 2000000 in
theorem compile_any (H : Nat) (T : World → Prop) (hI : ItO H T) (w : World) (st : List StP) (a2 a3 : Option Addr) (n2 k2 n3 k3 : Nat) (th : List TrH) (hPl : PlR w st ⟨.slice a2 n2 k2, .slice a3 n3 k3, th, [], 0⟩) (hNP : ∀ k, OwnP ⟨.slice a2 n2 k2, .slice a3 n3 k3, th, [], 0⟩ k → k < w.heap.size) (hT : T w) (hH : H ≤ w.heap.size) (hP : PlOk st (th.map TrH.q)) (htr : Tr st) (lim : Int) (hlim : lim ≤ 99) :
    Calls Tryz.prog 13 #[.agg #[.slice a2 n2 k2, .slice a3 n3 k3], .int .i64 lim] w fun e w' => e = .returned (coV (coR st th lim)) ∧ Fr (fun _ => False) w w' := by
  obtain ⟨hTh, hTa, hTl⟩ := hP.th
  have HPK : Hid (PlOk st (th.map TrH.q)) := hP
  have HTR : Hid (Tr st) := htr
  have hfa : Fr (fun _ => False) w (w.alloc (.cells #[.slice a2 n2 k2, .slice a3 n3 k3] 39)) := by (repeat (first | exact Fr.refl _ _ | assumption | refine Fr.drewNr ?_ _ | refine Fr.drewr ?_ | refine Fr.allocr ?_ _ | refine Fr.setCellr ?_ _ _ (by first | exact Or.inl rfl | (right; simp; done) | (right; simp; omega))))
  have hb0 := Blk.new w #[.slice a2 n2 k2, .slice a3 n3 k3] 39
  have HEV : Hid (∀ w', Fr (fun _ => False) w w' → Calls Tryz.prog 29 #[.agg #[.slice a2 n2 k2, .slice a3 n3 k3]] w' fun e w'' => e = .returned (.string (evS th)) ∧ Fr (fun _ => False) w' w'') := fun w' f => pevents_any w' st ⟨.slice a2 n2 k2, .slice a3 n3 k3, th, [], 0⟩ (hPl.fr0 f) hTl
  have HPL : Hid _ := hPl
  have HNP : Hid _ := hNP
  have HT : Hid (T w) := hT
  have HI : Hid (ItO H T) := hI
  have HH : Hid (H ≤ w.heap.size) := hH
  have HFA : Hid _ := hfa
  have HSK : Hid (∀ w', Fr (fun _ => False) (w.alloc (.cells #[.slice a2 n2 k2, .slice a3 n3 k3] 39)) w' → w'.cell? ⟨w.heap.size, 0, none⟩ = some (.slice a2 n2 k2) ∧ w'.cell? ⟨w.heap.size, 1, none⟩ = some (.slice a3 n3 k3)) := fun w' f => by
    have hb := Blk.fr hb0 f (fun h => h)
    exact ⟨by rw [Blk.cell hb]; rfl, by rw [Blk.cell hb]; rfl⟩
  clear hP hTh hTa hTl hPl hNP hT hI hH htr hb0 hfa
  go_enter Tryz.func13, Tryz.ntmps13
  go_wp2_with fail
  generalize hW0 : w.alloc (.cells #[.slice a2 n2 k2, .slice a3 n3 k3] 39) = W0 at *
  refine wp_region_held_drew (S := fun w' => w'.cell? ⟨w.heap.size, 0, none⟩ = some (.slice a2 n2 k2) ∧ w'.cell? ⟨w.heap.size, 1, none⟩ = some (.slice a3 n3 k3)) (by kernel_rfl) (HSK.out _ (by (repeat (first | exact Fr.refl _ _ | assumption | refine Fr.drewNr ?_ _ | refine Fr.drewr ?_ | refine Fr.allocr ?_ _ | refine Fr.setCellr ?_ _ _ (by first | exact Or.inl rfl | (right; simp; done) | (right; simp; omega)))))) (fun hHeld => ?_)
  refine wpAnyH_take (i := 0) (oi := { dst := some 10, op := _, type := _, pos := _, after := _, guard := none }) (v := .agg #[.slice a2 n2 k2, .slice a3 n3 k3]) rfl (by kernel_rfl) (by kernel_rfl) (by kernel_rfl) (fun _ _ _ h => h) (Or.inl ⟨by rfl, fun w hSw => by obtain ⟨s0, s1⟩ := hSw; go_simp⟩) hHeld ?_
  try simp only [Act.put, List.setIfInBounds_toArray, List.set_cons_zero, List.set_cons_succ]
  refine wpAnyH_take (i := 1) (oi := { dst := some 11, op := _, type := _, pos := _, after := _, guard := none }) (v := .agg (pyA (.slice a2 n2 k2) (.slice a3 n3 k3))) rfl (by kernel_rfl) (by kernel_rfl) (by kernel_rfl) (fun _ _ _ h => h) (yields_py (by rfl) _ rfl _ _ rfl) hHeld ?_
  try simp only [Act.put, List.setIfInBounds_toArray, List.set_cons_zero, List.set_cons_succ]
  refine wpAnyH_take (i := 2) (oi := { dst := some 12, op := _, type := _, pos := _, after := _, guard := none }) (v := .agg #[.slice a2 n2 k2, .slice a3 n3 k3]) rfl (by kernel_rfl) (by kernel_rfl) (by kernel_rfl) (fun _ _ _ h => h) (Or.inl ⟨by rfl, fun w hSw => by obtain ⟨s0, s1⟩ := hSw; go_simp⟩) hHeld ?_
  try simp only [Act.put, List.setIfInBounds_toArray, List.set_cons_zero, List.set_cons_succ]
  have hd0 : Fr (fun _ => False) W0 W0.drew := by (repeat (first | exact Fr.refl _ _ | assumption | refine Fr.drewNr ?_ _ | refine Fr.drewr ?_ | refine Fr.allocr ?_ _ | refine Fr.setCellr ?_ _ _ (by first | exact Or.inl rfl | (right; simp; done) | (right; simp; omega))))
  refine wpAnyH_ready (rs := [3, 5]) (by kernel_rfl) (by simp) ?_
  refine AllReadyH.cons (o := { dst := some 13, op := _, type := _, pos := _, after := _, guard := none }) rfl (fun K hK => ?_) (AllReadyH.cons (o := { dst := some 6, op := _, type := _, pos := _, after := _, guard := none }) rfl (fun K hK => ?_) AllReadyH.nil)
  focus
    go_simp
    refine Calls.mono (HEV.out _ (HFA.out.thenr hd0 (fun _ _ h => h))) ?_
    rintro e w1 ⟨rfl, hf1⟩
    have hf01 : Fr (fun _ => False) W0 w1 := hd0.thenr hf1 (fun _ _ h => h)
    go_wp2_with fail
    refine hK.out _ _ (HSK.out _ hf01) (fun hHeld => ?_)
    try simp only [Act.put, List.setIfInBounds_toArray, List.set_cons_zero, List.set_cons_succ]
    refine wpAnyH_take (i := 4) (oi := { dst := some 14, op := _, type := _, pos := _, after := _, guard := none }) (v := .agg (coA (.slice a2 n2 k2) (.slice a3 n3 k3) (evS th))) rfl (by kernel_rfl) (by kernel_rfl) (by kernel_rfl) (fun _ _ _ h => h) (yields_co (by rfl) _ _ rfl _ _ _ rfl rfl) hHeld ?_
    try simp only [Act.put, List.setIfInBounds_toArray, List.set_cons_zero, List.set_cons_succ]
    refine wpAnyH_ready (rs := [5]) (by kernel_rfl) (by simp) ?_
    refine AllReadyH.cons (o := { dst := some 6, op := _, type := _, pos := _, after := _, guard := none }) rfl (fun K hK => ?_) AllReadyH.nil
    refine step_alcC rfl rfl ?_
    refine hK.out _ _ (HSK.out _ (hf01.allocr _)) (fun hHeld => ?_)
    try simp only [Act.put, List.setIfInBounds_toArray, List.set_cons_zero, List.set_cons_succ]
    refine wpAnyH_ready (rs := [6]) (by kernel_rfl) (by simp) ?_
    refine AllReadyH.cons (o := { dst := none, op := _, type := _, pos := _, after := _, guard := none }) rfl (fun K hK => ?_) AllReadyH.nil
    refine step_stoC rfl _ _ rfl w1 _ _ _ _ rfl rfl rfl rfl (one_co rfl rfl _) ?_
    refine hK.out _ _ (HSK.out _ (hf01.allocr _)) (fun hHeld => ?_)
    try simp only [Act.put, List.setIfInBounds_toArray, List.set_cons_zero, List.set_cons_succ]
    refine wpAnyH_done (by kernel_rfl) ?_ _
    have HB2 : Hid _ := Blk.new w1 (coA (.slice a2 n2 k2) (.slice a3 n3 k3) (evS th)) 87
    have HF2 : Hid (Fr (fun _ => False) W0 (w1.alloc (.cells (coA (.slice a2 n2 k2) (.slice a3 n3 k3) (evS th)) 87))) := hf01.allocr _
    have hbw : w.heap.size < w1.heap.size := by have h1 := hf01.size; rw [← hW0] at h1; simp at h1; omega
    clear hHeld hK
    generalize w1.alloc (.cells (coA (.slice a2 n2 k2) (.slice a3 n3 k3) (evS th)) 87) = W2 at *
    generalize w1.heap.size = b at *
    clear hf1 hf01
  rotate_left 1
  focus
    refine step_alcC rfl rfl ?_
    have hz0 := Blk.new W0.drew (coA nilV nilV ⟨#[]⟩) 87
    have hfz : Fr (fun _ => False) W0 (W0.drew.alloc (.cells (coA nilV nilV ⟨#[]⟩) 87)) := by (repeat (first | exact Fr.refl _ _ | assumption | refine Fr.drewNr ?_ _ | refine Fr.drewr ?_ | refine Fr.allocr ?_ _ | refine Fr.setCellr ?_ _ _ (by first | exact Or.inl rfl | (right; simp; done) | (right; simp; omega))))
    refine hK.out _ _ (HSK.out _ hfz) (fun hHeld => ?_)
    try simp only [Act.put, List.setIfInBounds_toArray, List.set_cons_zero, List.set_cons_succ]
    refine wpAnyH_ready (rs := [3]) (by kernel_rfl) (by simp) ?_
    refine AllReadyH.cons (o := { dst := some 13, op := _, type := _, pos := _, after := _, guard := none }) rfl (fun K hK => ?_) AllReadyH.nil
    go_simp
    refine Calls.mono (HEV.out _ (HFA.out.thenr hfz (fun _ _ h => h))) ?_
    rintro e w1 ⟨rfl, hf1⟩
    have hf01 : Fr (fun _ => False) W0 w1 := hfz.thenr hf1 (fun _ _ h => h)
    have hz1 := Blk.fr hz0 hf1 (fun h => h)
    go_wp2_with fail
    refine hK.out _ _ (HSK.out _ hf01) (fun hHeld => ?_)
    try simp only [Act.put, List.setIfInBounds_toArray, List.set_cons_zero, List.set_cons_succ]
    refine wpAnyH_take (i := 4) (oi := { dst := some 14, op := _, type := _, pos := _, after := _, guard := none }) (v := .agg (coA (.slice a2 n2 k2) (.slice a3 n3 k3) (evS th))) rfl (by kernel_rfl) (by kernel_rfl) (by kernel_rfl) (fun _ _ _ h => h) (yields_co (by rfl) _ _ rfl _ _ _ rfl rfl) hHeld ?_
    try simp only [Act.put, List.setIfInBounds_toArray, List.set_cons_zero, List.set_cons_succ]
    refine wpAnyH_ready (rs := [6]) (by kernel_rfl) (by simp) ?_
    refine AllReadyH.cons (o := { dst := none, op := _, type := _, pos := _, after := _, guard := none }) rfl (fun K hK => ?_) AllReadyH.nil
    have hfs : Fr (fun _ => False) W0 (w1.setCells W0.drew.heap.size 0 (coA (.slice a2 n2 k2) (.slice a3 n3 k3) (evS th)).toList) := Fr.setsr (S := fun _ => False) (Or.inr (Nat.le_refl _)) _ _ hf01
    have hzs : Blk (w1.setCells W0.drew.heap.size 0 (coA (.slice a2 n2 k2) (.slice a3 n3 k3) (evS th)).toList) W0.drew.heap.size (coA (.slice a2 n2 k2) (.slice a3 n3 k3) (evS th)) 87 := by have h1 := Blk.sets (coA (.slice a2 n2 k2) (.slice a3 n3 k3) (evS th)).toList 0 hz1; rw [setsA_all _ _ (by rw [coA_size, Array.length_toList, coA_size]), Array.toArray_toList] at h1; exact h1
    refine step_store_mid rfl 87 _ _ rfl W0.drew.heap.size 0 (coA (.slice a2 n2 k2) (.slice a3 n3 k3) (evS th)) rfl rfl (there_of hz1 0 (by rw [coA_size, coA_size]; omega)) (by rw [size_co, coA_size]) (one_co rfl rfl _) ?_
    refine hK.out _ _ (HSK.out _ hfs) (fun hHeld => ?_)
    try simp only [Act.put, List.setIfInBounds_toArray, List.set_cons_zero, List.set_cons_succ]
    refine wpAnyH_done (by kernel_rfl) ?_ _
    have HB2 : Hid _ := hzs
    have HF2 : Hid _ := hfs
    have hbw : w.heap.size < W0.drew.heap.size := by show w.heap.size < W0.heap.size; rw [← hW0]; simp
    have hdd : W0.drew.heap.size = W0.heap.size := rfl
    clear hHeld hK
    generalize w1.setCells W0.drew.heap.size 0 (coA (.slice a2 n2 k2) (.slice a3 n3 k3) (evS th)).toList = W2 at *
    clear hzs hfs hz0 hz1 hfz
    rw [hdd] at HB2 hbw
    try rw [hdd]
    generalize W0.heap.size = b at *
    clear hf1 hf01 hdd
  rotate_left 1
  all_goals
    have HFW : Hid (Fr (fun _ => False) w W2) := HFA.out.thenr HF2.out (fun _ _ h => h)
    have hPV : PyV W2 b st ⟨(.slice a2 n2 k2), (.slice a3 n3 k3), th, [.string (evS th), nilV, nilV], 87⟩ py0 nilV :=
      { blk := HB2.out
        pl := by have h1 := HPL.out.fr0 HFW.out; exact ⟨h1.r2, h1.r3, h1.rc⟩
        ro := ⟨rfl, .inl ⟨rfl, rfl⟩⟩
        np := fun k hk => by have := HNP.out k hk; omega
        ok := py0_ok }
    have hV0 : CoV W2 b st (.slice a2 n2 k2) (.slice a3 n3 k3) th (evS th) py0 nilV nilV nilV [] [] := ⟨hPV, ⟨rfl, .inl ⟨rfl, rfl⟩⟩, ⟨rfl, .inl ⟨rfl, rfl⟩⟩, fun k hk => by simp [nilV, Value.ownBlock] at hk, fun k hk => by simp [nilV, Value.ownBlock] at hk, fun k hk => by simp [nilV, Value.ownBlock] at hk, fun k hk => by simp [nilV, Value.ownBlock] at hk, fun x hx => by simp at hx⟩
    have HV0 : Hid _ := hV0
    have HBG : Hid _ := begin_any W2 b st _ py0 nilV HPK.out.wf HPK.out.sz HPK.out.s0 hPV (by show 0 + _ ≤ _; omega)
    have HES : Hid ((evS th).size ≤ 26) := evS_size th
    have HRR : Hid (coR st th lim = (coF st th (evS th) lim 100 [sxP (begP st)] []).map fun z => ⟨(taK (evS th) ⟨(begP st).out.toArray⟩ z.2 z.2.length).toArray⟩) := rfl
    obtain ⟨es, hes⟩ : ∃ es, evS th = es := ⟨_, rfl⟩
    rw [hes] at HV0 HBG HES HRR
    clear hPV hV0 HB2 HF2 hes
    go_wp2_with fail
    refine Calls.mono HBG.out ?_
    rintro e w3 ⟨rfl, hl3, vo3, hp3, he3⟩
    have HV3 : Hid (CoV w3 b st (.slice a2 n2 k2) (.slice a3 n3 k3) th es (begP st) vo3 nilV nilV [] []) := HV0.out.step hp3 he3
    have HF3 : Hid (Fr (fun k => b ≤ k) W2 w3) := he3.fr.mono (fun k _ ho => by
      rcases ho with e | e
      · omega
      · simp [nilV, Value.ownBlock] at e)
    have hbo : (begP st).out.length ≤ 5368709120 := by
      have h0 : py0.out.length = 0 := rfl
      rw [h0] at hl3
      show (enF st 26 0 Am.free py0).out.length ≤ _
      omega
    have hcv := conv_row HV3.out.py.ro
    have co := HV3.out.py.co
    obtain ⟨qa, qc, hvq⟩ := row_lenB HV3.out.py.ro
    rw [hvq] at hcv co
    have c6 : w3.cell? ⟨b, 706, none⟩ = some (.slice none 0 0) := HV3.out.c6
    have z6 := HV3.out.py.fz 706
    have hbl3 := Blk.lt HV3.out.py.blk
    have rn := HV3.out.py.rnow
    have hpo := HV3.out.py.ok
    obtain ⟨x0, hx0⟩ : ∃ x, sxP (begP st) = x := ⟨_, rfl⟩
    have HXO : Hid (SxOk x0) := by rw [← hx0]; exact ⟨hpo.la, hpo.lm, hpo.le⟩
    have ry : w3.rangeAt b 2 (sxC x0) := by rw [← hx0]; exact rn
    obtain ⟨BG, hBG⟩ : ∃ B : ByteArray, (⟨(begP st).out.toArray⟩ : ByteArray) = B := ⟨_, rfl⟩
    have HBS : Hid (BG.size ≤ 10000000000) := by rw [← hBG]; show (begP st).out.toArray.size ≤ _; simp; omega
    rw [hBG] at hcv
    rw [hx0, hBG] at HRR
    generalize (begP st).out.length = bl at *
    have hiy := sts_info HXO.out
    have hu := Tryz.underlying81
    have HVa : Hid _ := HV3.out.fr0 (by (repeat (first | exact Fr.refl _ _ | assumption | refine Fr.drewNr ?_ _ | refine Fr.drewr ?_ | refine Fr.allocr ?_ _ | refine Fr.setCellr ?_ _ _ (by first | exact Or.inl rfl | (right; simp; done) | (right; simp; omega)))) : Fr (fun _ => False) w3 (w3.alloc (.cells (sxC x0).toArray 81)))
    have hr0 : (w3.alloc (.cells (sxC x0).toArray 81)).ownsRow 0 81 702 (.slice none 0 0) 0 [] := ⟨rfl, .inl ⟨rfl, rfl⟩⟩
    clear hx0 hBG hp3 he3 hl3 HBG HV0 rn hpo hvq
    go_wp2_with (first | (refine wpList_load_mid rfl 81 _ rfl _ _ rfl _ _ ry hu rfl hiy ?_) | (refine wpList_bldS rfl _ rfl x0 HXO.out rfl ?_) | (at_builtin; refine wpList_append1 rfl _ _ _ rfl _ 702 702 elemSts _ 0 [] rfl hr0 ⟨w3.heap.size, 0, none⟩ 1 (sxC x0) rfl (sxC_len HXO.out) (by exact cells_new (Blk.new _ _ _)) (sxC_one x0) (by unfold maxLen; omega) (by omega) ?_; intro g cap w5 hrow hgrow hgo; have hG5 : Fr (fun j => (Value.slice none 0 0).ownBlock = some j) _ w5 := Fr.grown _ hgrow (fun _ e => e); have hb5 := Blk.fr HVa.out.py.blk hG5 (fun e => by simp [Value.ownBlock] at e); have k6 : w5.cell? ⟨b, 706, none⟩ = some (.slice none 0 0) := by { rw [Blk.cell hb5, ← Blk.cell HV3.out.py.blk]; exact c6 }; have kz6 := Blk.frozen hb5 706; have hbl5 := Blk.lt hb5; obtain ⟨hV6, hF6⟩ := HVa.out.pushS x0 HXO.out hrow hgrow hgo; have HV6 : Hid _ := hV6; have HF6 : Hid _ := hF6; clear hrow hgrow hgo hG5 hb5 hV6 hF6))
    have HF6' : Hid (Fr (fun k => b ≤ k) W2 _) := (HF3.out.thenr (by (repeat (first | exact Fr.refl _ _ | assumption | refine Fr.drewNr ?_ _ | refine Fr.drewr ?_ | refine Fr.allocr ?_ _ | refine Fr.setCellr ?_ _ _ (by first | exact Or.inl rfl | (right; simp; done) | (right; simp; omega)))) : Fr (fun _ => False) w3 (w3.alloc (.cells (sxC x0).toArray 81))) (fun _ _ h => h.elim)).thenr HF6.out (fun k _ e => by
      rcases e with e | e
      · omega
      · simp [nilV, Value.ownBlock] at e)
    have HLT : Hid (∀ wr, Fr (fun k => b ≤ k) W2 wr → T wr ∧ Fr (fun _ => False) w wr) := fun wr f => by
      have h1 : Fr (fun _ => False) w wr := HFW.out.thenr f (fun k hk e => by omega)
      exact ⟨HI.out.keep w wr _ HT.out h1 (fun _ h => h.elim), h1⟩
    have HHB : Hid (H ≤ b) := by have := HH.out; show _ ≤ _; omega
    clear ry c6 z6 hr0 k6 kz6 hbl5 hbl3 HV3 HVa HF3 HF6 hcv co hiy hu
    go_loopg [8] 101 (fun g vi wr => ∃ (l : List Sx) (rows : List ByteArray) (p : Py) (vo vS vR : Value) (f : Nat), vi = .int .i64 rows.length ∧ Hid (CoV wr b st (.slice a2 n2 k2) (.slice a3 n3 k3) th es p vo vS vR l rows) ∧ Hid (Fr (fun k => b ≤ k) W2 wr) ∧ l.length ≤ 125 ∧ rows.length ≤ 99 ∧ f + rows.length = 100 ∧ Hid (coF st th es lim 100 [x0] [] = coF st th es lim f l rows) ∧ Hid (∀ r ∈ rows, r.size ≤ 6000000) ∧ f ≤ g)
    case atStart => exact ⟨[x0], [], _, _, _, _, 100, rfl, HV6, HF6', by simp, by simp, rfl, rfl, (fun r hr => by simp at hr), by omega⟩
    case round =>
      clear HV6 HF6'
      obtain ⟨l, rows, p, vo, vS, vR, f, rfl, HV, HF, hl, hr, hf, HC, HRS, hg⟩ := hrel
      obtain ⟨sa, sc, hvS⟩ := row_len HV.out.rS
      subst hvS
      have c6 := HV.out.c6
      obtain ⟨f', rfl⟩ : ∃ f', f = f' + 1 := ⟨f - 1, by omega⟩
      by_cases hlt : (rows.length : Int) < l.length
      · have hlt' : rows.length < l.length := by omega
        obtain ⟨x, hx⟩ : ∃ x, l[rows.length]? = some x := ⟨_, List.getElem?_eq_getElem hlt'⟩
        have HX : Hid (l[rows.length]? = some x) := hx
        have HCE : Hid (coF st th es lim (f' + 1) l rows = if lim < (l.length : Int) then none else coF st th es lim f' (ceK st th es x l es.size).1 (rows ++ [⟨(ceK st th es x l es.size).2.toArray⟩])) := by show _ = _; rw [coF, hx]
        clear hx
        by_cases hd : lim < (l.length : Int)
        · have HN : Hid (coR st th lim = none) := by show _ = _; rw [HRR.out, HC.out, HCE.out, if_pos hd]; rfl
          go_wp2_with fail
          have hw := (HLT.out wr HF.out).2
          exact bodyPost_ret (v := .tuple #[.string ⟨#[]⟩, .bool false]) (by simp [results, Tryz.results13, go_sem]) rfl ⟨by rw [HN.out]; rfl, hw⟩
        · have hd' : decide (lim < (l.length : Int)) = false := by simp; omega
          have hl99 : l.length ≤ 99 := by omega
          have HCE2 : Hid (coF st th es lim (f' + 1) l rows = coF st th es lim f' (ceK st th es x l es.size).1 (rows ++ [⟨(ceK st th es x l es.size).2.toArray⟩])) := by show _ = _; rw [HCE.out, if_neg hd]
          have HCL : Hid _ := cells_any H T HI.out wr b st (.slice a2 n2 k2) (.slice a3 n3 k3) th es p vo _ vR l rows HV.out (HLT.out wr HF.out).1 HHB.out HPK.out HTR.out rows.length x HX.out HES.out (by omega)
          have hln := ceK_llen st th es x l es.size
          have hes26 := HES.out
          have HTL : Hid ((ceK st th es x l es.size).2.length ≤ 6000000) := by
            obtain ⟨hTh, hTa, hTl⟩ := HPK.out.th
            have h1 := ceK_tlen HTR.out HPK.out.sz (fun t ht => ⟨(hTh t ht).1, hTa t ht⟩) es x l (by omega) es.size (by omega)
            have h2 : es.size * 220488 ≤ 26 * 220488 := Nat.mul_le_mul_right _ hes26
            show _ ≤ _
            omega
          clear HCE hd c6
          obtain ⟨R, hR⟩ : ∃ R : ByteArray, (⟨(ceK st th es x l es.size).2.toArray⟩ : ByteArray) = R := ⟨_, rfl⟩
          have HRZ : Hid (R.size ≤ 6000000) := by rw [← hR]; show (ceK st th es x l es.size).2.toArray.size ≤ _; simpa using HTL.out
          rw [hR] at HCL HCE2
          obtain ⟨L, hL⟩ : ∃ L, (ceK st th es x l es.size).1 = L := ⟨_, rfl⟩
          rw [hL] at HCL HCE2 hln
          clear hR hL HTL HX
          have c6 := HV.out.c6
          go_wp2_with fail
          refine Calls.mono HCL.out ?_
          rintro e w6 ⟨rfl, hf6, p6, vo6, vS6, hV6⟩
          have HV7 : Hid _ := hV6
          have HF7 : Hid _ := HF.out.thenr hf6 (fun _ _ h => h)
          obtain ⟨ra, rc, hvR⟩ := row_len HV7.out.rR
          subst hvR
          have c7 := HV7.out.c7
          have z7 := HV7.out.py.fz 707
          have hbl7 := Blk.lt HV7.out.py.blk
          have HVa : Hid _ := HV7.out.fr0 (by (repeat (first | exact Fr.refl _ _ | assumption | refine Fr.drewNr ?_ _ | refine Fr.drewr ?_ | refine Fr.allocr ?_ _ | refine Fr.setCellr ?_ _ _ (by first | exact Or.inl rfl | (right; simp; done) | (right; simp; omega)))) : Fr (fun _ => False) w6 (w6.alloc (.cells #[.string R] 9)))
          have HFa : Hid _ := HF7.out.thenr (by (repeat (first | exact Fr.refl _ _ | assumption | refine Fr.drewNr ?_ _ | refine Fr.drewr ?_ | refine Fr.allocr ?_ _ | refine Fr.setCellr ?_ _ _ (by first | exact Or.inl rfl | (right; simp; done) | (right; simp; omega)))) : Fr (fun _ => False) w6 (w6.alloc (.cells #[.string R] 9))) (fun _ _ h => h.elim)
          have hrA := HVa.out.rR
          clear hV6 hf6 HCL HV HF c6
          go_wp2_with (at_builtin; refine wpList_append1 rfl _ _ _ rfl _ 1 16 elemStr _ rows.length (rows.map Value.string) rfl hrA ⟨w6.heap.size, 0, none⟩ 1 [.string R] rfl rfl (by exact cells_new (Blk.new _ _ _)) (by intro u hu; simp at hu; subst hu; rfl) (by unfold maxLen; omega) (by omega) ?_; intro g cap w8 hrow hgrow hgo; have hG8 : Fr (fun j => (Value.slice ra rows.length rc).ownBlock = some j) _ w8 := Fr.grown _ hgrow (fun _ e => e); have hb8 := Blk.fr HVa.out.py.blk hG8 (fun e => by have := HVa.out.bR b e; omega); have k7 : w8.cell? ⟨b, 707, none⟩ = some (.slice ra rows.length rc) := by { rw [Blk.cell hb8, ← Blk.cell HV7.out.py.blk]; exact c7 }; have kz7 := Blk.frozen hb8 707; have hbl8 := Blk.lt hb8; obtain ⟨hV9, hF9⟩ := HVa.out.pushR R hrow hgrow hgo; have HV9 : Hid _ := hV9; have HF9 : Hid _ := HFa.out.thenr hF9 (fun _ _ h => h); clear hrow hgrow hgo hG8 hb8 hV9 hF9 hrA)
          go_roundg f'
          case measure => omega
          case rel => exact ⟨L, rows ++ [R], p6, vo6, vS6, _, f', by (first | (simp; done) | (simp; go_num)), HV9, HF9, by omega, by simp; omega, by simp; omega, HC.out.trans HCE2.out, (fun r hr => by
            rcases List.mem_append.1 hr with h | h
            · exact HRS.out r h
            · simp only [List.mem_cons, List.not_mem_nil, or_false] at h; rw [h]; exact HRZ.out), Nat.le_refl _⟩
      · have HN : Hid (coF st th es lim 100 [x0] [] = some (l, rows)) := by
          show _ = _
          rw [HC.out, coF, List.getElem?_eq_none (by omega)]
        have HTT : Hid _ := tableText_any H T HI.out wr b es BG vR rows HV.out.c5 HV.out.c7 HV.out.rR (HLT.out wr HF.out).1 HES.out HBS.out (by omega) HRS.out
        have HCR : Hid (coR st th lim = some ⟨(taK es BG rows rows.length).toArray⟩) := by show _ = _; rw [HRR.out, HN.out]; rfl
        obtain ⟨E, hE⟩ : ∃ E : ByteArray, (⟨(taK es BG rows rows.length).toArray⟩ : ByteArray) = E := ⟨_, rfl⟩
        rw [hE] at HTT HCR
        clear hE HC HN
        go_wp2_with fail
        refine Calls.mono HTT.out ?_
        rintro e w6 ⟨rfl, hf6⟩
        have hw := (HLT.out wr HF.out).2.thenr hf6 (fun _ _ h => h)
        go_wp2_with fail
        exact bodyPost_ret (v := .tuple #[.string E, .bool true]) (by simp [results, Tryz.results13, go_sem]) rfl ⟨by rw [HCR.out]; rfl, hw⟩
end Go.Proofs.YtmolmbeeoecnfaaGreatDoor
