/- Own work: CoW3. -/
import Derived.Test.YtmolmbeeoecnfaaGreatDoorF20
import Derived.Great.BuildSlice
/- Own work: walks of the compiler: giveNumber. -/
namespace Go.Proofs.YtmolmbeeoecnfaaGreatDoor
open Go.RowKit Go.BigFrame
set_option linter.unusedVariables false
set_option linter.unusedSimpArgs false

def eqS (l : List Sx) (x : Sx) (k : Nat) : Bool := match l[k]? with | some y => decide (y = x) | none => false
def nuS (l : List Sx) (x : Sx) : Nat := (firstB (eqS l x) l.length).getD l.length
def adS (l : List Sx) (x : Sx) : List Sx := if nuS l x < l.length then l else l ++ [x]
def sx0 : Sx := (noSet, List.replicate 26 noSet)
set_option maxRecDepth 1000000 in
theorem elemSts : ElemOk Tryz.prog 85 81 702 702 where
 ht := Tryz.underlying85
 info := by
  obtain ⟨i, h0, h1, h2, h3⟩ := info_parts (show (Tryz.prog.info? 81).map (fun i => (i.zero, i.size, i.bytes)) = some (some (.agg (sxC sx0).toArray), 702, 702) by kernel_rfl)
  exact ⟨i, _, h0, h1, h2, h3, by kernel_rfl⟩
 pos := by decide
theorem sxC_len {x : Sx} (h : SxOk x) : (sxC x).length = 702 := by rw [sxC_bits, bV_len, h.len]
theorem sts_info {x : Sx} (h : SxOk x) : (Tryz.prog.info? 81).map (·.size) = some (sxC x).length := by rw [sxC_len h, size_now]
theorem sxC_one (x : Sx) : ∀ u ∈ sxC x, u.oneCell' = true := by
 intro u hu
 rw [sxC_bits] at hu
 simp only [bV, List.mem_map] at hu
 obtain ⟨_, _, rfl⟩ := hu
 rfl
theorem flatS_get : ∀ (l : List Sx) (k j : Nat) (x : Sx), (∀ x ∈ l, SxOk x) → l[k]? = some x → j < 702 → (l.flatMap sxC)[k * 702 + j]? = (sxC x)[j]?
 | [], k, j, x, _, h, _ => by simp at h
 | a :: r, 0, j, x, hl, h, hj => by
  simp at h; subst h
  rw [List.flatMap_cons, List.getElem?_append_left (by rw [sxC_len (hl a (by simp))]; omega)]; simp
 | a :: r, k + 1, j, x, hl, h, hj => by
  rw [List.flatMap_cons, List.getElem?_append_right (by rw [sxC_len (hl a (by simp))]; omega), sxC_len (hl a (by simp)), show (k + 1) * 702 + j - 702 = k * 702 + j by omega]
  exact flatS_get r k j x (fun x hx => hl x (by simp [hx])) (by simpa using h) hj
theorem rngS {w : World} {l : List Sx} {g n c k : Nat} {x : Sx} (h : w.ownsRow 0 81 702 (.slice (some ⟨g, 0, none⟩) n c) n (l.flatMap sxC)) (hl : ∀ x ∈ l, SxOk x) (hx : l[k]? = some x) : w.rangeAt g (k * 702) (sxC x) := fun j v hv => by
 have hj : j < 702 := by have := (List.getElem?_eq_some_iff.1 hv).1; rw [sxC_len (hl x (List.mem_of_getElem? hx))] at this; exact this
 exact (row_cell h (k * 702 + j) v (by rw [flatS_get l k j x hl hx hj]; exact hv)).1
theorem fillS (Z c : Array Value) (hZ : Z.size = 702) (hc : c.size = 702) : Instr.fill (fun i => some (i * 702, 702)) Z [(0, .agg c)] = some c := by
 obtain ⟨r, hr, hs, hk⟩ := Great.fill_dense (s := 702) (by decide) [.agg c] 0 Z (by intro v hv; simp only [List.mem_cons, List.not_mem_nil, or_false] at hv; subst hv; exact hc) (by rw [hZ]; simp)
 have e : r = c := by
  apply Array.ext_getElem?
  intro k
  rw [hk k]
  by_cases h : k < 702
  ·rw [if_pos ⟨by omega, by simpa using h⟩, Nat.div_eq_of_lt h, Nat.mod_eq_of_lt h]
   rfl
  ·rw [if_neg (by simp; omega), Array.getElem?_eq_none (by omega), Array.getElem?_eq_none (by omega)]
 rw [e] at hr
 exact hr
theorem wp_bldS {o : Oper} {a : Act} {w : World} {K : Act → World → Prop} {Q : Exit → Act → World → Prop} (y : Operand) (ho : o.op = .buildSlice 85 1 #[(0, y)]) (z : Sx) (hz : SxOk z) (hy : a.eval y = .agg (sxC z).toArray)
  (h : K (a.put o.dst (.slice (some ⟨w.heap.size, 0, none⟩) 1 1)) (w.alloc (.cells (sxC z).toArray 81))) : o.wp Tryz.prog a w K Q := by
 obtain ⟨ht, ⟨i, zz, hi, hz0, hsize, hby, hzs⟩, hsz⟩ := elemSts
 refine wp_buildSlice 85 81 1 _ ho (sxC z).toArray i zz ht hi hz0 (by rw [hsize]; decide) (by rw [hsize]; decide) ?_ h
 rw [hsize]
 have e : (#[((0 : Nat), y)].map fun (i, x) => (i, a.eval x)).toList = [(0, .agg (sxC z).toArray)] := by simp [hy]
 rw [e]
 exact fillS _ _ (by simp) (by rw [List.size_toArray, sxC_len hz])
theorem wpList_bldS {ops : Array Oper} {rest : List Oper} {o : Oper} {a : Act} {w : World} {Q : Exit → Act → World → Prop} (hg : o.guard = none) (y : Operand) (ho : o.op = .buildSlice 85 1 #[(0, y)]) (z : Sx) (hz : SxOk z) (hy : a.eval y = .agg (sxC z).toArray)
  (h : wpList Tryz.prog ops Q rest (a.put o.dst (.slice (some ⟨w.heap.size, 0, none⟩) 1 1)) (w.alloc (.cells (sxC z).toArray 81))) : wpList Tryz.prog ops Q (o :: rest) a w :=
 wpList_plain hg fun _ hK => wp_bldS y ho z hz hy (hK _ _ h)
theorem step_bldS {w : World} {ops : Array Oper} {o : Oper} {a : Act} {K : Act → World → Prop} {Q : Exit → Act → World → Prop} {E : Prop} (hgd : o.guard = none) (y : Operand) (ho : o.op = .buildSlice 85 1 #[(0, y)]) (z : Sx) (hz : SxOk z) (hy : a.eval y = .agg (sxC z).toArray)
  (h : K (a.put o.dst (.slice (some ⟨w.heap.size, 0, none⟩) 1 1)) (w.alloc (.cells (sxC z).toArray 81))) : if Region.wanted o (yielded ops a.tmps) = true then Oper.wp Tryz.prog o a w K Q else E := by
 have hw : Region.wanted o (yielded ops a.tmps) = true := by simp [Region.wanted, hgd]
 rw [if_pos hw]
 exact wp_bldS y ho z hz hy h
section
variable {w : World} {b : Nat} {st : List StP} {v2 v3 : Value} {th : List TrH} {es : ByteArray} {p : Py} {vo vS vR : Value} {l : List Sx} {rows : List ByteArray}
theorem CoV.pushS {w2 : World} {g cap : Nat} (h : CoV w b st v2 v3 th es p vo vS vR l rows) (x : Sx) (hx : SxOk x)
  (hrow : w2.ownsRow 0 81 702 (.slice (some ⟨g, 0, none⟩) (l.length + 1) cap) (l.length + 1) (l.flatMap sxC ++ sxC x)) (hgrow : w.grownBy w2 vS.ownBlock) (hgo : vS.ownBlock = some g ∨ w.heap.size ≤ g) :
  CoV (w2.setCell ⟨b, 706, none⟩ (.slice (some ⟨g, 0, none⟩) (l.length + 1) cap)) b st v2 v3 th es p vo (.slice (some ⟨g, 0, none⟩) (l.length + 1) cap) vR (l ++ [x]) rows ∧ Fr (fun k => k = b ∨ vS.ownBlock = some k) w (w2.setCell ⟨b, 706, none⟩ (.slice (some ⟨g, 0, none⟩) (l.length + 1) cap)) := by
 have hbl := Blk.lt h.py.blk
 have hG : Fr (fun j => vS.ownBlock = some j) w w2 := Fr.grown _ hgrow (fun _ e => e)
 have hbg : b < g := by
  rcases hgo with e | e
  ·exact h.bS g e
  ·omega
 have hpy := h.py.fr hG (fun k hk e => by
  have h1 := h.bS k e
  rcases hk with (hk | hk) | hk
  ·omega
  ·exact (h.dS k e).1 hk
  ·have := h.py.np k hk; omega)
 have hR2 := row_fr h.rR hG (fun k hk e => (h.dS k e).2 hk)
 have hset : Fr (· = b) w2 (w2.setCell ⟨b, 706, none⟩ (.slice (some ⟨g, 0, none⟩) (l.length + 1) cap)) := Fr.setCell (· = b) _ _ _ rfl
 refine ⟨⟨hpy.setTl 1 _, ?_, row_fr hR2 hset (fun k hk e => by have := h.bR k hk; omega), ?_, h.bR, ?_, h.dR, ?_⟩, ?_⟩
 ·have h1 := row_fr hrow hset (fun k hk e => by simp [Value.ownBlock] at hk; omega)
  rw [List.length_append, List.flatMap_append]
  simpa using h1
 ·intro k hk; simp only [Value.ownBlock, Option.some.injEq] at hk; omega
 ·intro k hk
  simp only [Value.ownBlock, Option.some.injEq] at hk
  subst hk
  rcases hgo with e | e
  ·exact h.dS g e
  ·refine ⟨fun e2 => ?_, fun e2 => ?_⟩
   ·have := (h.py.roB g e2).2; omega
   ·have := (h.rR.lt g e2).2; omega
 ·intro y hy
  rcases List.mem_append.1 hy with h1 | h1
  ·exact h.lo y h1
  ·simp only [List.mem_cons, List.not_mem_nil, or_false] at h1; rw [h1]; exact hx
 ·exact (hG.mono (fun k _ e => Or.inr e)).thenr hset (fun k _ e => Or.inl e)
end

set_option maxRecDepth 100000 in
set_option maxHeartbeats 3000000 in
theorem giveNumber_any (w : World) (b : Nat) (st : List StP) (v2 v3 : Value) (th : List TrH) (es : ByteArray) (p : Py) (vo vS vR : Value) (l : List Sx) (rows : List ByteArray) (hV : CoV w b st v2 v3 th es p vo vS vR l rows) (x : Sx) (hx : SxOk x) (hl : l.length ≤ 1000) :
    Calls Tryz.prog 45 #[.pointer (some ⟨b, 0, none⟩), .agg (sxC x).toArray] w fun e w' => e = .returned (.int .i64 (nuS l x)) ∧ ∃ vS', CoV w' b st v2 v3 th es p vo vS' vR (adS l x) rows ∧ Fr (fun k => k = b ∨ vS.ownBlock = some k) w w' ∧ ∀ k, k < w.heap.size → vS'.ownBlock = some k → vS.ownBlock = some k := by
  have hfa : Fr (fun _ => False) w (w.alloc (.cells (sxC x).toArray 81)) := by (repeat (first | exact Fr.refl _ _ | assumption | refine Fr.drewNr ?_ _ | refine Fr.drewr ?_ | refine Fr.allocr ?_ _ | refine Fr.setCellr ?_ _ _ (by first | exact Or.inl rfl | (right; simp; done) | (right; simp; omega))))
  have HV : Hid (CoV (w.alloc (.cells (sxC x).toArray 81)) b st v2 v3 th es p vo vS vR l rows) := hV.fr0 hfa
  have HX : Hid (Blk (w.alloc (.cells (sxC x).toArray 81)) w.heap.size (sxC x).toArray 81) := Blk.new _ _ _
  obtain ⟨sa, sc, hvs⟩ := row_len hV.rS
  have c6 := HV.out.c6
  have HVS : Hid (vS = .slice sa l.length sc) := hvs
  rw [hvs] at c6
  have HSI : Hid (SxOk x) := hx
  have HFA : Hid _ := hfa
  have HQN : Hid (∀ k, vS.ownBlock = some k → k < w.heap.size) := fun k hk => (hV.rS.lt k hk).2
  have HQB : Hid (b < w.heap.size) := Blk.lt hV.py.blk
  clear hV hx hvs hfa
  go_enter Tryz.func45, Tryz.ntmps45
  go_wp2_with fail
  clear c6
  generalize hW : w.alloc (.cells (sxC x).toArray 81) = W at *
  have HW : Hid (W.heap.size = w.heap.size + 1) := by rw [← hW]; show _ = _; simp
  clear hW
  generalize hq : w.heap.size = q at *
  have HQW : Hid (w.heap.size = q) := hq
  clear hq
  go_loopw [11] (fun vi wr => ∃ k : Nat, k ≤ l.length ∧ vi = .int .i64 k ∧ Hid (∀ j, j < k → eqS l x j = false) ∧ Fr (fun _ => False) W wr) (fun vi _ => l.length - (intOf vi).toNat)
  case atStart => exact ⟨0, Nat.zero_le _, rfl, fun j hj => (by omega), Fr.refl _ _⟩
  case round =>
    obtain ⟨k, hk, rfl, HJ, hfr⟩ := hrel
    have HVr : Hid (CoV wr b st v2 v3 th es p vo vS vR l rows) := HV.out.fr0 hfr
    have HXr : Hid (Blk wr q (sxC x).toArray 81) := Blk.fr HX.out hfr (fun h => h)
    by_cases hlt : (k : Int) < l.length
    · have hlt' : k < l.length := by omega
      have hrs := HVr.out.rS
      rw [HVS.out] at hrs
      obtain ⟨gg, cc, hv3, hcc⟩ := row_form hrs (by omega)
      injection hv3 with q1 q2 q3
      subst q1
      subst q3
      clear q2
      obtain ⟨y, hy⟩ : ∃ y, l[k]? = some y := ⟨_, List.getElem?_eq_getElem hlt'⟩
      have hyo := HVr.out.lo y (List.mem_of_getElem? hy)
      have ry := rngS hrs HVr.out.lo hy
      have rx := rangeB HXr.out
      have c6 := HVr.out.c6
      rw [HVS.out] at c6
      have HIY : Hid _ := sts_info hyo
      have HIX : Hid _ := sts_info HSI.out
      have he := fun W => run_eqS hyo HSI.out W
      have HU : Hid _ := Tryz.underlying81
      have HE : Hid (eqS l x k = decide (y = x)) := by show _ = _; simp [eqS, hy]
      have HI : Hid (eqS l x k = true → nuS l x = k) := fun h => by
        unfold nuS
        rw [firstB_some (eqS l x) k h HJ.out _ hlt']; rfl
      have HKP : Hid (∀ w', Fr (fun _ => False) wr w' → w'.cell? ⟨b, 706, none⟩ = some (.slice (some ⟨gg, 0, none⟩) l.length sc) ∧ w'.rangeAt gg (k * 702) (sxC y) ∧ w'.rangeAt q 0 (sxC x)) := fun w' f => by
        refine ⟨?_, ?_, rangeB (Blk.fr HXr.out f (fun h => h))⟩
        · have := (HVr.out.fr0 f).c6; rwa [HVS.out] at this
        · have h1 := (HVr.out.fr0 f).rS
          rw [HVS.out] at h1
          exact rngS h1 HVr.out.lo hy
      clear hrs hy hyo ry rx
      go_wp2_with fail
      refine wp_region_held_drew (S := fun w' => Fr (fun _ => False) wr w') (by kernel_rfl) (by (repeat (first | exact Fr.refl _ _ | assumption | refine Fr.drewNr ?_ _ | refine Fr.drewr ?_ | refine Fr.allocr ?_ _ | refine Fr.setCellr ?_ _ _ (by first | exact Or.inl rfl | (right; simp; done) | (right; simp; omega))))) (fun hHeld => ?_)
      refine wpAnyH_take (i := 0) (oi := { dst := some 14, op := _, type := _, pos := _, after := _, guard := none }) (v := .pointer (some ⟨b, 0, none⟩)) rfl (by kernel_rfl) (by kernel_rfl) (by kernel_rfl) (fun _ _ _ h => h) (Or.inl ⟨by rfl, fun w hSw => by go_simp⟩) hHeld ?_
      try simp only [Act.put, List.setIfInBounds_toArray, List.set_cons_zero, List.set_cons_succ]
      refine wpAnyH_take (i := 1) (oi := { dst := some 15, op := _, type := _, pos := _, after := _, guard := none }) (v := .pointer (some ⟨b, 0, none⟩)) rfl (by kernel_rfl) (by kernel_rfl) (by kernel_rfl) (fun _ _ _ h => h) (Or.inl ⟨by rfl, fun w hSw => by go_simp⟩) hHeld ?_
      try simp only [Act.put, List.setIfInBounds_toArray, List.set_cons_zero, List.set_cons_succ]
      refine wpAnyH_take (i := 2) (oi := { dst := some 16, op := _, type := _, pos := _, after := _, guard := none }) (v := .pointer (some ⟨b, 706, none⟩)) rfl (by kernel_rfl) (by kernel_rfl) (by kernel_rfl) (fun _ _ _ h => h) (Or.inl ⟨by rfl, fun w hSw => by go_simp⟩) hHeld ?_
      try simp only [Act.put, List.setIfInBounds_toArray, List.set_cons_zero, List.set_cons_succ]
      refine wpAnyH_take (i := 3) (oi := { dst := some 17, op := _, type := _, pos := _, after := _, guard := none }) (v := .slice (some ⟨gg, 0, none⟩) l.length sc) rfl (by kernel_rfl) (by kernel_rfl) (by kernel_rfl) (fun _ _ _ h => h) (Or.inl ⟨by rfl, fun w hSw => by have c := (HKP.out w hSw).1; go_simp⟩) hHeld ?_
      try simp only [Act.put, List.setIfInBounds_toArray, List.set_cons_zero, List.set_cons_succ]
      refine wpAnyH_take (i := 4) (oi := { dst := some 18, op := _, type := _, pos := _, after := _, guard := none }) (v := .int .i64 k) rfl (by kernel_rfl) (by kernel_rfl) (by kernel_rfl) (fun _ _ _ h => h) (Or.inl ⟨by rfl, fun w hSw => by go_simp⟩) hHeld ?_
      try simp only [Act.put, List.setIfInBounds_toArray, List.set_cons_zero, List.set_cons_succ]
      refine wpAnyH_take (i := 5) (oi := { dst := some 19, op := _, type := _, pos := _, after := _, guard := none }) (v := .pointer (some ⟨gg, k * 702, none⟩)) rfl (by kernel_rfl) (by kernel_rfl) (by kernel_rfl) (fun _ _ _ h => h) (Or.inl ⟨by rfl, fun w hSw => by go_simp⟩) hHeld ?_
      try simp only [Act.put, List.setIfInBounds_toArray, List.set_cons_zero, List.set_cons_succ]
      refine wpAnyH_take (i := 6) (oi := { dst := some 20, op := _, type := _, pos := _, after := _, guard := none }) (v := .agg (sxC y).toArray) rfl (by kernel_rfl) (by kernel_rfl) (by kernel_rfl) (fun _ _ _ h => h) (yieldsIf_load_mid (by rfl) 81 (.tmp 19) rfl gg (k * 702) rfl (sxC y) _ (fun w hSw => (HKP.out w hSw).2.1) HU.out rfl HIY.out) hHeld ?_
      try simp only [Act.put, List.setIfInBounds_toArray, List.set_cons_zero, List.set_cons_succ]
      refine wpAnyH_take (i := 7) (oi := { dst := some 21, op := _, type := _, pos := _, after := _, guard := none }) (v := .agg (sxC x).toArray) rfl (by kernel_rfl) (by kernel_rfl) (by kernel_rfl) (fun _ _ _ h => h) (yieldsIf_load_mid (by rfl) 81 (.tmp 3) rfl q 0 rfl (sxC x) _ (fun w hSw => (HKP.out w hSw).2.2) HU.out rfl HIX.out) hHeld ?_
      try simp only [Act.put, List.setIfInBounds_toArray, List.set_cons_zero, List.set_cons_succ]
      refine wpAnyH_take (i := 8) (oi := { dst := some 22, op := _, type := _, pos := _, after := _, guard := none }) (v := .bool (decide (y = x))) rfl (by kernel_rfl) (by kernel_rfl) (by kernel_rfl) (fun _ _ _ h => h) (Or.inl ⟨by rfl, fun w hSw => by go_simp⟩) hHeld ?_
      try simp only [Act.put, List.setIfInBounds_toArray, List.set_cons_zero, List.set_cons_succ]
      refine wpAnyH_done (by kernel_rfl) ?_ _
      cases e : decide (y = x) with
      | true =>
        have HI2 : Hid (nuS l x = k) := HI.out (by rw [HE.out]; exact e)
        clear HI HE e he hHeld
        go_wp2_with fail
        go_ret
        refine ⟨?_, vS, ?_, ?_, fun _ _ h => h⟩
        · rw [HI2.out]; rfl
        · rw [adS, if_pos (by rw [HI2.out]; exact hlt')]
          exact HVr.out.fr0 (by (repeat (first | exact Fr.refl _ _ | assumption | refine Fr.drewNr ?_ _ | refine Fr.drewr ?_ | refine Fr.allocr ?_ _ | refine Fr.setCellr ?_ _ _ (by first | exact Or.inl rfl | (right; simp; done) | (right; simp; omega)))))
        · exact (HFA.out.thenr (hfr.thenr (by (repeat (first | exact Fr.refl _ _ | assumption | refine Fr.drewNr ?_ _ | refine Fr.drewr ?_ | refine Fr.allocr ?_ _ | refine Fr.setCellr ?_ _ _ (by first | exact Or.inl rfl | (right; simp; done) | (right; simp; omega)))) : Fr (fun _ => False) wr wr.drew) (fun _ _ h => h)) (fun _ _ h => h)).mono (fun _ _ h => h.elim)
      | false =>
        have HB : Hid (eqS l x k = false) := by show _ = _; rw [HE.out]; exact e
        clear HI HE e he hHeld
        go_wp2_with fail
        go_roundw
        case rel => exact ⟨k + 1, by omega, by go_num, below_step HJ.out HB.out, by (repeat (first | exact Fr.refl _ _ | assumption | refine Fr.drewNr ?_ _ | refine Fr.drewr ?_ | refine Fr.allocr ?_ _ | refine Fr.setCellr ?_ _ _ (by first | exact Or.inl rfl | (right; simp; done) | (right; simp; omega))))⟩
        case measure => simp [intOf]; omega
    · have HI : Hid (nuS l x = l.length) := by
        show _ = _
        unfold nuS
        rw [firstB_none (eqS l x) l.length (fun j hj => HJ.out j (by omega))]; rfl
      have c6 := HVr.out.c6
      have z6 := Blk.frozen HVr.out.py.blk 706
      have hbl := Blk.lt HVr.out.py.blk
      rw [HVS.out] at c6
      have HIX : Hid _ := sts_info HSI.out
      have HU : Hid _ := Tryz.underlying81
      have HRX : Hid (∀ w', Fr (fun _ => False) wr w' → w'.rangeAt q 0 (sxC x)) := fun w' f => rangeB (Blk.fr HXr.out f (fun h => h))
      have HRS : Hid (wr.ownsRow 0 81 702 (.slice sa l.length sc) l.length (l.flatMap sxC)) := by have := HVr.out.rS; rwa [HVS.out] at this
      have HC6 : Hid _ := c6
      have HCA : Hid (CoV ((wr.drew).alloc (.cells (sxC x).toArray 81)) b st v2 v3 th es p vo vS vR l rows) := HVr.out.fr0 (by (repeat (first | exact Fr.refl _ _ | assumption | refine Fr.drewNr ?_ _ | refine Fr.drewr ?_ | refine Fr.allocr ?_ _ | refine Fr.setCellr ?_ _ _ (by first | exact Or.inl rfl | (right; simp; done) | (right; simp; omega)))))
      go_wp2_with fail
      refine wp_region_held_drew (S := fun w' => w'.rangeAt q 0 (sxC x)) (by kernel_rfl) (HRX.out _ (by (repeat (first | exact Fr.refl _ _ | assumption | refine Fr.drewNr ?_ _ | refine Fr.drewr ?_ | refine Fr.allocr ?_ _ | refine Fr.setCellr ?_ _ _ (by first | exact Or.inl rfl | (right; simp; done) | (right; simp; omega)))))) (fun hHeld => ?_)
      refine wpAnyH_take (i := 0) (oi := { dst := some 25, op := _, type := _, pos := _, after := _, guard := none }) (v := .pointer (some ⟨b, 0, none⟩)) rfl (by kernel_rfl) (by kernel_rfl) (by kernel_rfl) (fun _ _ _ h => h) (Or.inl ⟨by rfl, fun w hSw => by go_simp⟩) hHeld ?_
      try simp only [Act.put, List.setIfInBounds_toArray, List.set_cons_zero, List.set_cons_succ]
      refine wpAnyH_take (i := 1) (oi := { dst := some 26, op := _, type := _, pos := _, after := _, guard := none }) (v := .pointer (some ⟨b, 0, none⟩)) rfl (by kernel_rfl) (by kernel_rfl) (by kernel_rfl) (fun _ _ _ h => h) (Or.inl ⟨by rfl, fun w hSw => by go_simp⟩) hHeld ?_
      try simp only [Act.put, List.setIfInBounds_toArray, List.set_cons_zero, List.set_cons_succ]
      refine wpAnyH_take (i := 2) (oi := { dst := some 27, op := _, type := _, pos := _, after := _, guard := none }) (v := .pointer (some ⟨b, 0, none⟩)) rfl (by kernel_rfl) (by kernel_rfl) (by kernel_rfl) (fun _ _ _ h => h) (Or.inl ⟨by rfl, fun w hSw => by go_simp⟩) hHeld ?_
      try simp only [Act.put, List.setIfInBounds_toArray, List.set_cons_zero, List.set_cons_succ]
      refine wpAnyH_take (i := 3) (oi := { dst := some 28, op := _, type := _, pos := _, after := _, guard := none }) (v := .pointer (some ⟨b, 706, none⟩)) rfl (by kernel_rfl) (by kernel_rfl) (by kernel_rfl) (fun _ _ _ h => h) (Or.inl ⟨by rfl, fun w hSw => by go_simp⟩) hHeld ?_
      try simp only [Act.put, List.setIfInBounds_toArray, List.set_cons_zero, List.set_cons_succ]
      refine wpAnyH_take (i := 5) (oi := { dst := some 30, op := _, type := _, pos := _, after := _, guard := none }) (v := .agg (sxC x).toArray) rfl (by kernel_rfl) (by kernel_rfl) (by kernel_rfl) (fun _ _ _ h => h) (yieldsIf_load_mid (by rfl) 81 (.tmp 3) rfl q 0 rfl (sxC x) _ (fun w hSw => hSw) HU.out rfl HIX.out) hHeld ?_
      try simp only [Act.put, List.setIfInBounds_toArray, List.set_cons_zero, List.set_cons_succ]
      have c6d : wr.drew.cell? ⟨b, 706, none⟩ = some (.slice sa l.length sc) := HC6.out
      have c6e : (wr.drew.alloc (.cells (sxC x).toArray 81)).cell? ⟨b, 706, none⟩ = some (.slice sa l.length sc) := by have := HCA.out.c6; rwa [HVS.out] at this
      refine wpAnyH_ready (rs := [4, 6]) (by kernel_rfl) (by simp) ?_
      refine AllReadyH.cons (o := { dst := some 29, op := _, type := _, pos := _, after := _, guard := none }) rfl (fun K hK => ?_) (AllReadyH.cons (o := { dst := some 31, op := _, type := _, pos := _, after := _, guard := none }) rfl (fun K hK => ?_) AllReadyH.nil)
      go_simp
      refine hK.out _ _ hHeld (fun hHeld => ?_)
      try simp only [Act.put, List.setIfInBounds_toArray, List.set_cons_zero, List.set_cons_succ]
      refine wpAnyH_ready (rs := [6]) (by kernel_rfl) (by simp) ?_
      refine AllReadyH.cons (o := { dst := some 31, op := _, type := _, pos := _, after := _, guard := none }) rfl (fun K hK => ?_) AllReadyH.nil
      refine step_bldS rfl (.tmp 30) rfl x HSI.out rfl ?_
      refine hK.out _ _ (HRX.out _ (by (repeat (first | exact Fr.refl _ _ | assumption | refine Fr.drewNr ?_ _ | refine Fr.drewr ?_ | refine Fr.allocr ?_ _ | refine Fr.setCellr ?_ _ _ (by first | exact Or.inl rfl | (right; simp; done) | (right; simp; omega)))))) (fun hHeld => ?_)
      try simp only [Act.put, List.setIfInBounds_toArray, List.set_cons_zero, List.set_cons_succ]
      rotate_left 1
      refine step_bldS rfl (.tmp 30) rfl x HSI.out rfl ?_
      refine hK.out _ _ (HRX.out _ (by (repeat (first | exact Fr.refl _ _ | assumption | refine Fr.drewNr ?_ _ | refine Fr.drewr ?_ | refine Fr.allocr ?_ _ | refine Fr.setCellr ?_ _ _ (by first | exact Or.inl rfl | (right; simp; done) | (right; simp; omega)))))) (fun hHeld => ?_)
      try simp only [Act.put, List.setIfInBounds_toArray, List.set_cons_zero, List.set_cons_succ]
      refine wpAnyH_ready (rs := [4]) (by kernel_rfl) (by simp) ?_
      refine AllReadyH.cons (o := { dst := some 29, op := _, type := _, pos := _, after := _, guard := none }) rfl (fun K hK => ?_) AllReadyH.nil
      go_simp
      refine hK.out _ _ (HRX.out _ (by (repeat (first | exact Fr.refl _ _ | assumption | refine Fr.drewNr ?_ _ | refine Fr.drewr ?_ | refine Fr.allocr ?_ _ | refine Fr.setCellr ?_ _ _ (by first | exact Or.inl rfl | (right; simp; done) | (right; simp; omega)))))) (fun hHeld => ?_)
      try simp only [Act.put, List.setIfInBounds_toArray, List.set_cons_zero, List.set_cons_succ]
      rotate_left 1
      all_goals
        refine wpAnyH_ready (rs := [7]) (by kernel_rfl) (by simp) ?_
        refine AllReadyH.cons (o := { dst := some 32, op := _, type := _, pos := _, after := _, guard := none }) rfl (fun K hK => ?_) AllReadyH.nil
        refine step_append1 rfl (.tmp 29) (.tmp 31) 85 rfl 81 702 702 elemSts (.slice sa l.length sc) l.length (l.flatMap sxC) rfl (by exact World.ownsRow.alloc (row_fr HRS.out (Fr.drew (fun _ => False) wr) (fun _ _ h => h)) _) ⟨wr.drew.heap.size, 0, none⟩ 1 (sxC x) rfl (sxC_len HSI.out) (by exact cells_new (Blk.new _ _ _)) (sxC_one x) (by unfold maxLen; omega) (by omega) ?_
        intro g cap w9 hrow hgrow hgo
        rw [← HVS.out] at hgrow hgo
        have hG9 : Fr (fun j => vS.ownBlock = some j) _ w9 := Fr.grown _ hgrow (fun _ e => e)
        have hb9 := Blk.fr HCA.out.py.blk hG9 (fun e => by have := HCA.out.bS b e; omega)
        have hx9 := Blk.fr (Blk.alloc (Blk.drew HXr.out) (.cells (sxC x).toArray 81)) hG9 (fun e => by have := HQN.out q e; omega)
        have k6 : w9.cell? ⟨b, 706, none⟩ = some (.slice sa l.length sc) := by rw [Blk.cell hb9, ← Blk.cell HVr.out.py.blk]; exact HC6.out
        have kz6 := Blk.frozen hb9 706
        obtain ⟨hCV, hFV⟩ := HCA.out.pushS x HSI.out hrow hgrow hgo
        have HCV : Hid _ := hCV
        have HFV : Hid _ := hFV
        have HGO : Hid _ := hgo
        refine hK.out _ _ (rangeB hx9) (fun hHeld => ?_)
        try simp only [Act.put, List.setIfInBounds_toArray, List.set_cons_zero, List.set_cons_succ]
        clear hCV hFV hrow hgrow hgo hG9 c6d c6e
        refine wpAnyH_take (i := 8) (oi := { dst := some 33, op := _, type := _, pos := _, after := _, guard := none }) (v := .pointer (some ⟨b, 0, none⟩)) rfl (by kernel_rfl) (by kernel_rfl) (by kernel_rfl) (fun _ _ _ h => h) (Or.inl ⟨by rfl, fun w hSw => by go_simp⟩) (by assumption) ?_
        try simp only [Act.put, List.setIfInBounds_toArray, List.set_cons_zero, List.set_cons_succ]
        refine wpAnyH_take (i := 9) (oi := { dst := some 34, op := _, type := _, pos := _, after := _, guard := none }) (v := .pointer (some ⟨b, 706, none⟩)) rfl (by kernel_rfl) (by kernel_rfl) (by kernel_rfl) (fun _ _ _ h => h) (Or.inl ⟨by rfl, fun w hSw => by go_simp⟩) (by assumption) ?_
        try simp only [Act.put, List.setIfInBounds_toArray, List.set_cons_zero, List.set_cons_succ]
        refine wpAnyH_ready (rs := [10]) (by kernel_rfl) (by simp) ?_
        refine AllReadyH.cons (o := { dst := none, op := _, type := _, pos := _, after := _, guard := none }) rfl (fun K hK => ?_) AllReadyH.nil
        go_simp
        refine hK.out _ _ (rangeB (Blk.other hx9 ⟨b, 706, none⟩ _ (by have := HQB.out; show q ≠ b; omega))) (fun hHeld => ?_)
        try simp only [Act.put, List.setIfInBounds_toArray, List.set_cons_zero, List.set_cons_succ]
        refine wpAnyH_done (by kernel_rfl) ?_ _
        have m6 := HCV.out.c6
        clear k6 kz6 hb9 hx9 hK
        go_wp2_with fail
        go_ret
        refine ⟨?_, .slice (some ⟨g, 0, none⟩) (l.length + 1) cap, ?_, ?_, ?_⟩
        · rw [HI.out]; rfl
        · rw [adS, if_neg (by rw [HI.out]; omega)]
          exact HCV.out
        · exact (((HFA.out.thenr hfr (fun _ _ h => h)).mono (fun _ _ h => h.elim)).thenr (by (repeat (first | exact Fr.refl _ _ | assumption | refine Fr.drewNr ?_ _ | refine Fr.drewr ?_ | refine Fr.allocr ?_ _ | refine Fr.setCellr ?_ _ _ (by first | exact Or.inl rfl | (right; simp; done) | (right; simp; omega)))) : Fr (fun _ => False) wr ((wr.drew).alloc (.cells (sxC x).toArray 81))) (fun _ _ h => h.elim)).thenr HFV.out (fun _ _ h => h)
        · intro k hk hs
          simp only [Value.ownBlock, Option.some.injEq] at hs
          subst hs
          rcases HGO.out with e | e
          · exact e
          · have h1 := hfr.size
            have h2 := HW.out
            have h3 := HQW.out
            simp at e
            omega
end Go.Proofs.YtmolmbeeoecnfaaGreatDoor
