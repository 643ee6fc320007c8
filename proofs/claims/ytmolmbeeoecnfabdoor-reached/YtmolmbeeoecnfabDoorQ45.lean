/- Own work: AppB. -/
import Derived.Test.YtmolmbeeoecnfabDoorQ02
import Derived.Room.AppendStr
import Derived.Laws.IdiomStrings
/- Own work: rows of bytes that grow, also such as a conversion laid (a mark behind the last cell). Names nothing of the program. -/
namespace Go.Proofs.YtmolmbeeoecnfabDoor
open Go.RowKit Go.Lib
set_option linter.unusedVariables false
set_option linter.unusedSimpArgs false

/-- v is a slice of bytes of its own array, whose mark (if there is one) lies behind its cells; it holds s. -/
def BRow (w : World) (e : TypeId) (v : Value) (s : ByteArray) : Prop :=
  ∃ g cap cur fr, v = .slice (some ⟨g, 0, none⟩) s.size cap ∧ w.heap[g]? = some (.cells cur e fr) ∧ (fr = (0, 0) ∨ cap ≤ fr.1) ∧ s.size ≤ cap ∧ cap ≤ maxLen ∧ cur.size = cap ∧ cur.toList.take s.size = strCells s

theorem BRow.fr {S : Nat → Prop} {w w' : World} {e : TypeId} {v : Value} {s : ByteArray} (h : BRow w e v s) (f : Fr S w w') (hn : ∀ k, v.ownBlock = some k → ¬ S k) : BRow w' e v s := by
  obtain ⟨g, cap, cur, fr, rfl, hg, rest⟩ := h
  exact ⟨g, cap, cur, fr, rfl, (f.block g (Array.getElem?_eq_some_iff.1 hg).1 (hn g rfl)).trans hg, rest⟩
theorem BRow.lt {w : World} {e : TypeId} {v : Value} {s : ByteArray} (h : BRow w e v s) : ∀ k, v.ownBlock = some k → k < w.heap.size := by
  obtain ⟨g, cap, cur, fr, rfl, hg, rest⟩ := h
  intro k hk
  simp only [Value.ownBlock, Option.some.injEq] at hk
  subst hk
  exact (Array.getElem?_eq_some_iff.1 hg).1
theorem BRow.cells {w : World} {e : TypeId} {g n cap : Nat} {s : ByteArray} (h : BRow w e (.slice (some ⟨g, 0, none⟩) n cap) s) : ∀ j u, (strCells s)[j]? = some u → w.cell? ((⟨g, 0, none⟩ : Addr).add j) = some u := by
  obtain ⟨g', cap', cur, fr, hv, hg, h1, h2, h3, h4, h5⟩ := h
  cases hv
  intro j u hu
  have hadd : (⟨g, 0, none⟩ : Addr).add j = ⟨g, j, none⟩ := by unfold Addr.add; split <;> simp_all
  rw [hadd, cell_of_row w g j cur e fr hg]
  rw [← h5, List.getElem?_take] at hu
  split at hu
  · simpa using hu
  · cases hu

theorem storeCells_fr (P : Program) (g o : Nat) (t : TypeId) (fr : Nat × Nat) : ∀ (vs : List Value) (i : Nat) (cur : Array Value) (w : World), w.heap[g]? = some (.cells cur t fr) → (fr = (0, 0) ∨ cur.size ≤ fr.1) → o + i + vs.length ≤ cur.size → (∀ v ∈ vs, v.oneCell' = true) →
    (storeCells ⟨g, o, none⟩ vs i).run P w = .ok () (w.setRow g (cur.toList.take (o + i) ++ vs ++ cur.toList.drop (o + i + vs.length)).toArray)
  | [], i, cur, w, hg, _, _, _ => by
    simp only [storeCells, List.append_nil, List.length_nil, Nat.add_zero, List.take_append_drop, Array.toArray_toList]
    rw [setRow_self w g cur t fr hg]
    rfl
  | v :: rest, i, cur, w, hg, hfr, hl, h1 => by
    have hi : o + i < cur.size := by simp at hl; omega
    have hadd : (⟨g, o, none⟩ : Addr).add i = ⟨g, o + i, none⟩ := by unfold Addr.add; split <;> simp_all
    have hcell : w.cell? ⟨g, o + i, none⟩ = some cur[o + i] := by simp [World.cell?, hg, hi]
    have hfro : w.frozen? ⟨g, o + i, none⟩ = false := by
      rcases hfr with rfl | h
      · simp [World.frozen?, hg]
      · simp [World.frozen?, hg]; omega
    have hst : (store ((⟨g, o, none⟩ : Addr).add i) v).run P w = .ok () (w.setRow g (cur.setIfInBounds (o + i) v)) := by
      rw [hadd, run_store P w _ v _ (h1 v (by simp)), hcell]
      simp [hfro, setCell_eq_setRow w g (o + i) cur t fr v hg]
    have ih := storeCells_fr P g o t fr rest (i + 1) (cur.setIfInBounds (o + i) v) (w.setRow g (cur.setIfInBounds (o + i) v)) (setRow_heap w g cur _ t _ hg) (by simpa using hfr) (by simp at hl ⊢; omega) (fun x hx => h1 x (by simp [hx]))
    simp only [storeCells, Sem.run_bind, hst, Result.andThen_ok, ih, setRow_setRow]
    congr 3
    have e := list_seg_step cur.toList (o + i) v rest (by simp at hl ⊢; omega)
    simpa [Array.toList_setIfInBounds, Nat.add_assoc] using e

theorem strCells_append (a b : ByteArray) : strCells (a ++ b) = strCells a ++ strCells b := by
  simp [strCells, ByteArray.data_append]

/-- The new row where there is room. -/
theorem brow_room {w : World} {e : TypeId} {g cap : Nat} {cur : Array Value} {fr : Nat × Nat} {s s2 : ByteArray} (hg : w.heap[g]? = some (.cells cur e fr)) (hfr : fr = (0, 0) ∨ cap ≤ fr.1) (hcm : cap ≤ maxLen) (hcs : cur.size = cap) (ht : cur.toList.take s.size = strCells s) (hroom : s.size + s2.size ≤ cap) :
    BRow (w.setRow g (cur.toList.take s.size ++ strCells s2 ++ cur.toList.drop (s.size + s2.size)).toArray) e (.slice (some ⟨g, 0, none⟩) (s.size + s2.size) cap) (s ++ s2) ∧
    w.grownBy (w.setRow g (cur.toList.take s.size ++ strCells s2 ++ cur.toList.drop (s.size + s2.size)).toArray) (some g) := by
  refine ⟨⟨g, cap, _, fr, by rw [ByteArray.size_append], setRow_heap w g cur _ e _ hg, hfr, by rw [ByteArray.size_append]; exact hroom, hcm, ?_, ?_⟩, ⟨rfl, rfl, rfl, by simp [World.setRow], fun k _ hk => setRow_other w g k _ (fun e => hk (by rw [e]))⟩⟩
  · simp only [List.size_toArray, List.length_append, List.length_take, List.length_drop, Array.length_toList, strCells_length]
    omega
  · rw [strCells_append, ht]
    rw [show (s ++ s2).size = (strCells s ++ strCells s2).length by rw [List.length_append, strCells_length, strCells_length, ByteArray.size_append]]
    exact List.take_left

theorem brow_own {w : World} {e : TypeId} {v : Value} {n : Nat} {s : ByteArray} (hn : n = s.size) (h : w.ownsRow 0 e 1 v n (strCells s)) (hv : v ≠ .slice none 0 0) : BRow w e v s := by
  subst hn
  rcases h.2 with ⟨h0, _⟩ | ⟨g, cap, cur, rfl, _, hg, h1, h2, h3, h4⟩
  · exact absurd h0 hv
  · exact ⟨g, cap, cur, (0, 0), rfl, hg, Or.inl rfl, h1, h2, by simpa using h3, by simpa using h4⟩

/-- A string appended. -/
theorem run_appB_str {P : Program} (w : World) (t u ty e : TypeId) (i : TypeInfo) (ht : P.underlying t = some (.slice e)) (hu : P.underlying u = some .string) (hi : P.info? e = some i) (hz : i.zero = some (.int .u8 0))
    (hsize : i.size = 1) (hby : i.bytes = 1) (v : Value) (s : ByteArray) (h : BRow w e v s) (s2 : ByteArray) (hb : s.size + s2.size ≤ 70368744177664) :
    ∃ g cap w', (Builtin.append_ #[t, u] ty #[v, .string s2]).run P w = .ok (.slice (some ⟨g, 0, none⟩) (s.size + s2.size) cap) w' ∧ BRow w' e (.slice (some ⟨g, 0, none⟩) (s.size + s2.size) cap) (s ++ s2) ∧ w.grownBy w' v.ownBlock ∧ (v.ownBlock = some g ∨ w.heap.size ≤ g) := by
  have h0 := h
  obtain ⟨g, cap, cur, fr, rfl, hg, hfr, hnc, hcm, hcs, htk⟩ := h
  by_cases hroom : s.size + s2.size ≤ cap
  · obtain ⟨r1, r2⟩ := brow_room hg hfr hcm hcs htk hroom
    refine ⟨g, cap, _, ?_, r1, r2, Or.inl rfl⟩
    have hf := run_firstCells_string (P := P) w 1 s2
    have hst := storeCells_fr P g s.size e fr (strCells s2) 0 cur w hg (by rw [hcs]; exact hfr) (by simp only [Nat.add_zero, strCells_length]; omega) (strCells_oneCell s2)
    simp only [Nat.add_zero, strCells_length] at hst
    simp [Builtin.append_, run_underlying ht, run_underlying hu, sizeOf, typeInfo, hi, hsize, Builtin.lenOf, hroom, hf, Addr.add_lit, hst]
  · have hr := run_append_grow_string (P := P) w t u ty e i (.int .u8 0) ht hu hi hz ⟨g, 0, none⟩ s.size cap (strCells s) (by rw [hsize, strCells_length, Nat.mul_one]) h0.cells s2 (by omega) (by omega) (by rw [hby]; exact growslice_fits (by omega) (by omega))
    have hge := grownCap_ge w (s.size + s2.size) cap e
    have hcm' : grownCap w (s.size + s2.size) cap e ≤ maxLen := grownCap_le_maxLen w (s.size + s2.size) cap e (by unfold maxLen; omega)
    refine ⟨_, _, _, hr, ⟨w.heap.size, _, _, (0, 0), by rw [ByteArray.size_append], heap_alloc_new w.drew _, Or.inl rfl, by rw [ByteArray.size_append]; exact hge, hcm', ?_, ?_⟩, ⟨rfl, rfl, rfl, by simp, fun k hk _ => Below.heap_alloc w.drew _ k hk⟩, Or.inr (Nat.le_refl _)⟩
    · have hz1 : (Value.int IntKind.u8 0).cells.size = 1 := rfl
      simp only [Array.size_append, List.size_toArray, size_zeroCells, hz1, strCells_length]
      omega
    · simp only [Array.toList_append, List.append_assoc]
      rw [← List.append_assoc, strCells_append, show (s ++ s2).size = (strCells s ++ strCells s2).length by rw [List.length_append, strCells_length, strCells_length, ByteArray.size_append]]
      exact List.take_left

/-- One byte appended. -/
theorem run_appB_one {P : Program} (w : World) (t ty e : TypeId) (he : ElemOk P t e 1 1) (v : Value) (s : ByteArray) (h : BRow w e v s) (c : UInt8) (a : Addr) (k : Nat) (ha : w.cell? a = some (.int .u8 c.toNat)) (hb : s.size + 1 ≤ 70368744177664) :
    ∃ g cap w', (Builtin.append_ #[t, t] ty #[v, .slice (some a) 1 k]).run P w = .ok (.slice (some ⟨g, 0, none⟩) (s.size + 1) cap) w' ∧ BRow w' e (.slice (some ⟨g, 0, none⟩) (s.size + 1) cap) (s ++ ⟨#[c]⟩) ∧ w.grownBy w' v.ownBlock ∧ (v.ownBlock = some g ∨ w.heap.size ≤ g) := by
  have h0 := h
  obtain ⟨ht, ⟨i, z, hi, hz, hsize, hby, hzs⟩, hsz⟩ := he
  obtain ⟨g, cap, cur, fr, rfl, hg, hfr, hnc, hcm, hcs, htk⟩ := h
  have hn1 : ∀ j u, [Value.int .u8 (c.toNat : Int)][j]? = some u → w.cell? (a.add j) = some u := by
    intro j u hu
    cases j with
    | zero => simp at hu; subst hu; rw [show a.add 0 = a by unfold Addr.add; split <;> simp_all]; exact ha
    | succ j => simp at hu
  have hc1 : strCells ⟨#[c]⟩ = [Value.int .u8 (c.toNat : Int)] := rfl
  by_cases hroom : s.size + 1 ≤ cap
  · obtain ⟨r1, r2⟩ := brow_room (s2 := ⟨#[c]⟩) hg hfr hcm hcs htk hroom
    refine ⟨g, cap, _, ?_, r1, r2, Or.inl rfl⟩
    have hf := run_firstCells_some (P := P) w i.size 1 a 1 k [.int .u8 (c.toNat : Int)] (by rw [hsize]; rfl) hn1
    have hst := storeCells_fr P g s.size e fr [.int .u8 (c.toNat : Int)] 0 cur w hg (by rw [hcs]; exact hfr) (by simp; omega) (by intro u hu; simp at hu; subst hu; rfl)
    rw [hc1]
    simp only [Nat.add_zero, List.length_cons, List.length_nil, Nat.zero_add] at hst
    rw [hsize] at hf
    rw [show (ByteArray.mk #[c]).size = 1 from rfl]
    simp [Builtin.append_, run_underlying ht, sizeOf, typeInfo, hi, hsize, Builtin.lenOf, hroom, hf, Addr.add_lit, hst]
  · obtain ⟨v', w', hrun, r1, r2⟩ := run_append_arg_grows (P := P) w t ty e i z 1 1 ht hi hz hsize hby hzs hsz ⟨g, 0, none⟩ s.size cap (strCells s) (by rw [strCells_length, Nat.mul_one]) h0.cells a 1 k [.int .u8 (c.toNat : Int)] rfl hn1 (by omega) (by unfold maxLen; omega) (by omega)
    rcases r1.2 with ⟨rfl, hz0⟩ | ⟨g', cap', cur', rfl, q1, q2, q3⟩
    · omega
    · refine ⟨g', cap', w', hrun, ?_, ⟨r2.os, r2.tape, r2.output, r2.size, fun k hk _ => r2.block k hk (by simp)⟩, Or.inr q1⟩
      refine brow_own (by rw [ByteArray.size_append]; rfl) ⟨?_, .inr ⟨g', cap', cur', rfl, Nat.zero_le _, q2, q3.1, q3.2.1, q3.2.2.1, ?_⟩⟩ (by simp)
      · rw [strCells_append, hc1]; simp [strCells_length]
      · rw [strCells_append, hc1]; exact q3.2.2.2

theorem wpList_appB_str {P : Program} {w : World} {ops : Array Oper} {rest : List Oper} {o : Oper} {a : Act} {Q : Exit → Act → World → Prop} (hgd : o.guard = none) (sl x : Operand) (t u : TypeId)
    (ho : o.op = .call { callee := .builtin .append, args := #[sl, x], argTypes := #[t, u] })
    (e : TypeId) (he : ElemOk P t e 1 1) (hz0 : (P.info? e).bind (·.zero) = some (.int .u8 0)) (hu : P.underlying u = some .string)
    (v : Value) (s : ByteArray) (hs : a.eval sl = v) (h : BRow w e v s) (s2 : ByteArray) (hx : a.eval x = .string s2) (hb : s.size + s2.size ≤ 70368744177664)
    (hk : ∀ g cap w', BRow w' e (.slice (some ⟨g, 0, none⟩) (s.size + s2.size) cap) (s ++ s2) → w.grownBy w' v.ownBlock → (v.ownBlock = some g ∨ w.heap.size ≤ g) → wpList P ops Q rest (a.put o.dst (.slice (some ⟨g, 0, none⟩) (s.size + s2.size) cap)) w') : wpList P ops Q (o :: rest) a w := by
  refine wpList_plain hgd fun K hK => ?_
  obtain ⟨ht, ⟨i, z, hi, hz, hsize, hby, hzs⟩, hsz⟩ := he
  rw [hi] at hz0
  obtain ⟨g, cap, w', hr, h2, h3, h4⟩ := run_appB_str (P := P) w t u o.type e i ht hu hi (by simpa using hz0) hsize hby v s h s2 hb
  unfold Oper.wp execOp
  simp only [ho, resolve, invoke, builtin, Sem.run_bind, Sem.run_pure, Result.andThen_ok, List.map_toArray, List.map_cons, List.map_nil, hs, hx, hr]
  exact hK _ _ (hk g cap w' h2 h3 h4)

theorem wpList_appB_one {P : Program} {w : World} {ops : Array Oper} {rest : List Oper} {o : Oper} {a : Act} {Q : Exit → Act → World → Prop} (hgd : o.guard = none) (sl x : Operand) (t : TypeId)
    (ho : o.op = .call { callee := .builtin .append, args := #[sl, x], argTypes := #[t, t] })
    (e : TypeId) (he : ElemOk P t e 1 1)
    (v : Value) (s : ByteArray) (hs : a.eval sl = v) (h : BRow w e v s) (c : UInt8) (ad : Addr) (k : Nat) (hx : a.eval x = .slice (some ad) 1 k) (hc : w.cell? ad = some (.int .u8 c.toNat)) (hb : s.size + 1 ≤ 70368744177664)
    (hk : ∀ g cap w', BRow w' e (.slice (some ⟨g, 0, none⟩) (s.size + 1) cap) (s ++ ⟨#[c]⟩) → w.grownBy w' v.ownBlock → (v.ownBlock = some g ∨ w.heap.size ≤ g) → wpList P ops Q rest (a.put o.dst (.slice (some ⟨g, 0, none⟩) (s.size + 1) cap)) w') : wpList P ops Q (o :: rest) a w := by
  refine wpList_plain hgd fun K hK => ?_
  obtain ⟨g, cap, w', hr, h2, h3, h4⟩ := run_appB_one (P := P) w t o.type e he v s h c ad k hc hb
  unfold Oper.wp execOp
  simp only [ho, resolve, invoke, builtin, Sem.run_bind, Sem.run_pure, Result.andThen_ok, List.map_toArray, List.map_cons, List.map_nil, hs, hx, hr]
  exact hK _ _ (hk g cap w' h2 h3 h4)

/-- What a conversion to bytes leaves. -/
def bytesW (w : World) (e : TypeId) (s : ByteArray) : World := w.drew.alloc (.cells (bytesRow s (grownCap w s.size 0 e)) e ((bytesRow s (grownCap w s.size 0 e)).size, (bytesRow s (grownCap w s.size 0 e)).size + 1))
theorem bytesW_row (w : World) (e : TypeId) (s : ByteArray) (hs : s.size ≤ maxLen) : BRow (bytesW w e s) e (.slice (some ⟨w.heap.size, 0, none⟩) s.size (grownCap w s.size 0 e)) s := by
  have hge := grownCap_ge w s.size 0 e
  have hcm : grownCap w s.size 0 e ≤ maxLen := grownCap_le_maxLen w s.size 0 e hs
  have hz : (bytesRow s (grownCap w s.size 0 e)).size = grownCap w s.size 0 e := by
    have : s.data.size = s.size := rfl
    simp only [bytesRow, Array.size_append, Array.size_map, Array.size_replicate]; omega
  refine ⟨w.heap.size, _, _, _, rfl, heap_alloc_new w.drew _, Or.inr (by rw [hz]; exact Nat.le_refl _), hge, hcm, hz, ?_⟩
  simp only [bytesRow, Array.toList_append, Array.toList_map]
  rw [show s.size = (strCells s).length by rw [strCells_length]]
  exact List.take_left
theorem bytesW_fr (w : World) (e : TypeId) (s : ByteArray) : Fr (fun _ => False) w (bytesW w e s) := (Fr.refl _ _).drewr.allocr _

/-- The bytes as a string again. -/
theorem brow_back {P : Program} {w : World} {src dst e : TypeId} {g cap : Nat} {s : ByteArray} (hs : P.underlying src = some (.slice e)) (he : P.underlying e = some (.int .u8)) (hd : P.underlying dst = some .string) (h : BRow w e (.slice (some ⟨g, 0, none⟩) s.size cap) s) :
    Sem.run P (convert src dst (.slice (some ⟨g, 0, none⟩) s.size cap)) w = .ok (.string s) w := by
  have h1 := run_convert_bytes_back (P := P) w src dst e ⟨g, 0, none⟩ cap s.data.toList hs he hd (fun j hj => h.cells j _ (by rw [strCells, List.getElem?_map, List.getElem?_eq_getElem hj]; rfl))
  have e1 : s.data.toList.length = s.size := rfl
  rw [e1] at h1
  simpa using h1
end Go.Proofs.YtmolmbeeoecnfabDoor
