/- Own work: CoB, CoW4. -/
import Derived.Test.YtmolmbeeoecnfaaGreatDoorF23
import Derived.Test.YtmolmbeeoecnfaaGreatDoorF21
import Derived.Lib.ItoaNum
import Derived.Laws.AppendOwnNone
/- Own work: how much a step puts out. -/
namespace Go.Proofs.YtmolmbeeoecnfaaGreatDoor
open Go.RowKit Go.BigFrame
set_option linter.unusedVariables false
set_option linter.unusedSimpArgs false

def EnS (st : List StP) : Nat → Nat
 | 0 => 0
 | k + 1 => EnS st k + (enterAt st k).size
def LeS (st : List StP) : Nat → Nat
 | 0 => 0
 | k + 1 => LeS st k + (leaveAt st k).size
theorem EnS_mono (st : List StP) {i : Nat} : ∀ {k : Nat}, i ≤ k → EnS st i ≤ EnS st k
  | 0, h => by have : i = 0 := by omega
               subst this; exact Nat.le_refl _
  | k + 1, h => by
    by_cases e : i = k + 1
    · subst e; exact Nat.le_refl _
    · have := EnS_mono st (i := i) (k := k) (by omega)
      rw [EnS]; omega
theorem enF_olen {st : List StP} (ht : Tr st) : ∀ (f s : Nat) (a : Am) (p : Py), s < st.length → (enF st f s a p).out.length + EnS st s ≤ p.out.length + EnS st (endAt st s)
  | 0, s, a, p, hs => by
    show p.out.length + _ ≤ _
    have := EnS_mono st (Nat.le_of_lt (ht.end_gt hs).1)
    omega
  | f + 1, s, a, p, hs => by
    obtain ⟨x, hx⟩ : ∃ x, st[s]? = some x := ⟨_, List.getElem?_eq_getElem hs⟩
    have hes := ht.end_gt hs
    have hex : endAt st s = x.end_ := endAt_at hx
    have he1 : EnS st (s + 1) = EnS st s + x.enter.size := by rw [EnS, enterAt_at hx]
    have hP : ({ p with act := p.act.set s true, out := p.out ++ bls x.enter } : Py).out.length = p.out.length + x.enter.size := by show (p.out ++ bls x.enter).length = _; rw [List.length_append, bls_len]
    have hm := EnS_mono st (show s + 1 ≤ endAt st s by omega)
    by_cases h2 : x.kind = 2
    · rw [enF_and hx h2]
      have hloop : ∀ (n i : Nat) (q : Py) (r : Nat), i + n = endAt st s → s < i → r ≤ endAt st s → (∀ c, i ≤ c → c < st.length → outAt st c = (s : Int) → r ≤ c) → q.out.length + EnS st s ≤ p.out.length + EnS st r →
          (itF (fun i q => if outAt st i = (s : Int) then enF st f i a q else q) n i q).out.length + EnS st s ≤ p.out.length + EnS st (endAt st s) := by
        intro n
        induction n with
        | zero =>
          intro i q r hi hsi hr hc hq
          show q.out.length + _ ≤ _
          have := EnS_mono st hr
          omega
        | succ n ih =>
          intro i q r hi hsi hr hc hq
          show (itF _ n (i + 1) (if outAt st i = (s : Int) then enF st f i a q else q)).out.length + _ ≤ _
          have hil : i < st.length := by omega
          by_cases ho : outAt st i = (s : Int)
          · rw [if_pos ho]
            have hE := enF_olen ht f i a q hil
            have hir := ht.child hil ho
            have hbi := ht.below hil hir.1 hir.2
            have hri := EnS_mono st (hc i (Nat.le_refl _) hil ho)
            refine ih (i + 1) _ (endAt st i) (by omega) (by omega) hbi.1 ?_ (by omega)
            intro c c1 c2 c3
            exact ht.apart hil c2 ho c3 (by omega)
          · rw [if_neg ho]
            exact ih (i + 1) q r (by omega) (by omega) hr (fun c c1 => hc c (by omega)) hq
      rw [← hex]
      exact hloop _ (s + 1) _ (s + 1) (by omega) (by omega) (by omega) (fun c c1 _ _ => c1) (by rw [hP, he1]; omega)
    · by_cases h1 : x.kind = 1
      · rw [enF_or hx h1]
        have hk := ht.wf.inn s x hx (by omega)
        obtain ⟨c1, c2⟩ := chP_ch ht hs (by omega) p.mm a
        have hE := enF_olen ht f (chP st p.mm s a).1 (chP st p.mm s a).2 { p with act := p.act.set s true, out := p.out ++ bls x.enter } c1
        rw [hP] at hE
        have hc := ht.child c1 c2
        have hb := ht.below c1 hc.1 hc.2
        have e1 := EnS_mono st (show s + 1 ≤ (chP st p.mm s a).1 by omega)
        have e2 := EnS_mono st hb.1
        omega
      · rw [enF_leaf hx h2 h1, hP]
        omega
theorem lvF_olenS (st : List StP) (left : List Bool) : ∀ (k : Nat) (p : Py), (lvF st left k p).out.length ≤ p.out.length + LeS st k
 | 0, p => Nat.le_refl _
 | k + 1, p => by
  rw [lvF, LeS]
  refine Nat.le_trans (lvF_olenS st left k _) ?_
  split
  ·show (p.out ++ bls (leaveAt st k)).length + _ ≤ _
   rw [List.length_append, bls_len]; omega
  ·omega
theorem tkF_olen {st : List StP} (ht : Tr st) (t : TrQ) (p : Py) (hq : TrOk st t) : (tkF st t p).out.length ≤ p.out.length + LeS st st.length + t.acts.size + EnS st st.length := by
 have hfi := fiOf_in st ht.wf t hq
 unfold tkF
 have h1 := enF_olen ht 26 (fiOf st t) ⟨t.ts, t.mark, -1⟩ { lvF st (lefB st p.act t) st.length (rmF st (lefB st p.act t) st.length p) with out := (lvF st (lefB st p.act t) st.length (rmF st (lefB st p.act t) st.length p)).out ++ bls t.acts } hfi
 have h2 := lvF_olenS st (lefB st p.act t) st.length (rmF st (lefB st p.act t) st.length p)
 rw [rmF_out] at h2
 have h3 : ({ lvF st (lefB st p.act t) st.length (rmF st (lefB st p.act t) st.length p) with out := (lvF st (lefB st p.act t) st.length (rmF st (lefB st p.act t) st.length p)).out ++ bls t.acts } : Py).out.length = (lvF st (lefB st p.act t) st.length (rmF st (lefB st p.act t) st.length p)).out.length + t.acts.size := by
  show (_ ++ bls t.acts).length = _; rw [List.length_append, bls_len]
 rw [h3] at h1
 have h4 := EnS_mono st (ht.end_gt hfi).2
 omega
theorem EnS_le {st : List StP} (hz : SzOk st) : ∀ k, EnS st k ≤ 160 * k ∧ LeS st k ≤ 160 * k
 | 0 => ⟨Nat.le_refl _, Nat.le_refl _⟩
 | k + 1 => by
  obtain ⟨h1, h2⟩ := EnS_le hz k
  have h3 : (enterAt st k).size ≤ 160 ∧ (leaveAt st k).size ≤ 160 := by
   unfold enterAt leaveAt
   cases hx : st[k]? with
   | none => exact ⟨Nat.zero_le _, Nat.zero_le _⟩
   | some x => exact hz x (List.mem_of_getElem? hx)
  rw [EnS, LeS]
  omega
theorem fold_olen {st : List StP} {th : List TrH} (ht : Tr st) (hz : SzOk st) (hT : ∀ t ∈ th, TrOk st t.q ∧ t.q.acts.size ≤ 160) : ∀ (ns : List Nat) (p : Py), (ns.foldl (tk1 st th) p).out.length ≤ p.out.length + ns.length * 8480
 | [], p => Nat.le_refl _
 | n :: ns, p => by
  rw [List.foldl_cons]
  refine Nat.le_trans (fold_olen ht hz hT ns _) ?_
  have hl := ht.wf.len
  have h1 : (tk1 st th p n).out.length ≤ p.out.length + 8480 := by
   unfold tk1
   split
   ·rename_i t hx
    obtain ⟨a1, a2⟩ := hT t (List.mem_of_getElem? hx)
    have := tkF_olen ht t.q p a1
    have := EnS_le hz st.length
    omega
   ·omega
  rw [List.length_cons, Nat.succ_mul]
  omega
theorem spF_olen {st : List StP} {th : List TrH} (ht : Tr st) (hz : SzOk st) (hT : ∀ t ∈ th, TrOk st t.q ∧ t.q.acts.size ≤ 160) (ev : UInt8) (p : Py) : (spF st th ev p).out.length ≤ p.out.length + 220480 := by
 unfold spF
 have h1 := fold_olen ht hz hT (tkn st th p.act ev) p
 have h2 := (tkn_ok st th p.act ev).2
 have h3 := ht.wf.len
 have h4 : (tkn st th p.act ev).length * 8480 ≤ 26 * 8480 := Nat.mul_le_mul_right _ (by omega)
 omega

theorem sets_size (b : Nat) : ∀ (vs : List Value) (o : Nat) (w : World), (w.setCells b o vs).heap.size = w.heap.size
 | [], _, _ => rfl
 | v :: r, o, w => (sets_size b r (o + 1) (w.setCell ⟨b, o, none⟩ v)).trans (by simp)
theorem row_noneB (w : World) (e : TypeId) (sz B : Nat) (h : B ≤ w.heap.size) : (w.alloc (.cells #[] e)).ownsRow B e sz (.slice (some ⟨w.heap.size, 0, none⟩) 0 0) 0 [] :=
 ⟨by simp, .inr ⟨w.heap.size, 0, #[], rfl, h, Blk.new w #[] e, Nat.le_refl _, Nat.zero_le _, by simp, by simp⟩⟩
section
variable {w : World} {b : Nat} {st : List StP} {ws : Wp} {p : Py} {vo : Value}
theorem pyC_setNow (ho : PyOk p) (x : Sx) (hx : SxOk x) : setsA (pyC ws p vo).toArray 2 (sxC x) = (pyC ws { p with act := x.1, mm := x.2 } vo).toArray := by
 apply Array.ext_getElem?
 intro j
 have hl := pyC_len (ws := ws) (vo := vo) ho
 have hlx := sxC_len hx
 rw [setsA_get _ _ _ _ (by rw [List.size_toArray, hl, hlx]; omega), hlx]
 have e1 : pyC ws p vo = [ws.v2, ws.v3] ++ (sxC (p.act, p.mm) ++ (vo :: ws.tl)) := by simp [pyC, sxC, nowC]
 have e2 : pyC ws { p with act := x.1, mm := x.2 } vo = [ws.v2, ws.v3] ++ (sxC x ++ (vo :: ws.tl)) := by simp [pyC, sxC, nowC]
 have hpl : (sxC (p.act, p.mm)).length = 702 := sxC_len ⟨ho.la, ho.lm, ho.le⟩
 simp only [List.getElem?_toArray]
 rw [e1, e2]
 by_cases h2 : j < 2
 ·rw [if_neg (by omega), List.getElem?_append_left (by simpa using h2), List.getElem?_append_left (by simpa using h2)]
 ·rw [List.getElem?_append_right (l₁ := [ws.v2, ws.v3]) (by simp; omega), List.getElem?_append_right (l₁ := [ws.v2, ws.v3]) (by simp; omega)]
  have e3 : j - [ws.v2, ws.v3].length = j - 2 := rfl
  rw [e3]
  by_cases h704 : j < 704
  ·rw [if_pos (by omega), List.getElem?_append_left (l₁ := sxC x) (by omega)]
  ·rw [if_neg (by omega), List.getElem?_append_right (l₁ := sxC (p.act, p.mm)) (by omega), List.getElem?_append_right (l₁ := sxC x) (by omega), hpl, hlx]
theorem PyV.setNow (h : PyV w b st ws p vo) (x : Sx) (hx : SxOk x) : PyV (w.setCells b 2 (sxC x)) b st ws { p with act := x.1, mm := x.2 } vo := by
  have f : Fr (· = b) w (w.setCells b 2 (sxC x)) := Fr.setsr (S := (· = b)) (Or.inl rfl) _ _ (Fr.refl _ _)
  exact { blk := by rw [← pyC_setNow h.ok x hx]; exact Blk.sets _ _ h.blk
          pl := h.pl.fr f (fun k hk e => by have := h.np k hk; omega)
          ro := row_frB h.ro f (fun k hk e => by have := (h.roB k hk).1; omega)
          np := h.np
          ok := ⟨hx.la, hx.lm, hx.le⟩ }
theorem PyV.newOut (h : PyV w b st ws p vo) : PyV ((w.alloc (.cells #[] 5)).setCell ⟨b, 704, none⟩ (.slice (some ⟨w.heap.size, 0, none⟩) 0 0)) b st ws { p with out := [] } (.slice (some ⟨w.heap.size, 0, none⟩) 0 0) := by
  have hbl := Blk.lt h.blk
  have ha := h.fr0 (Fr.alloc (fun _ => False) w (.cells #[] 5))
  have f : Fr (· = b) (w.alloc (.cells #[] 5)) ((w.alloc (.cells #[] 5)).setCell ⟨b, 704, none⟩ (.slice (some ⟨w.heap.size, 0, none⟩) 0 0)) := Fr.setCell (· = b) _ _ _ rfl
  exact { blk := by rw [← pyC_setOut ws p vo _ [] h.ok]; exact Blk.set ha.blk 704 _
          pl := ha.pl.fr f (fun k hk e => by have := h.np k hk; omega)
          ro := row_frB (row_noneB w _ 1 (b + 1) (by omega)) f (fun k hk e => by simp [Value.ownBlock] at hk; omega)
          np := h.np
          ok := ⟨h.ok.la, h.ok.lm, h.ok.le⟩ }
end
theorem zero_sts : (Tryz.prog.info? 81).bind (·.zero) = some (.agg (sxC sx0).toArray) := by kernel_rfl
theorem sx0_ok : SxOk sx0 := ⟨rfl, rfl, by intro m hm; simp only [sx0, List.mem_replicate] at hm; rw [hm.2]; rfl⟩
theorem wpList_alcS {ops : Array Oper} {rest : List Oper} {o : Oper} {a : Act} {w : World} {Q : Exit → Act → World → Prop} (hg : o.guard = none) (ho : o.op = .alloc 81)
  (h : wpList Tryz.prog ops Q rest (a.put o.dst (.pointer (some ⟨w.heap.size, 0, none⟩))) (w.alloc (.cells (sxC sx0).toArray 81))) : wpList Tryz.prog ops Q (o :: rest) a w := by
 refine wpList_plain hg fun K hK => ?_
 obtain ⟨i, hi, hz⟩ : ∃ i, Tryz.prog.info? 81 = some i ∧ i.zero = some (.agg (sxC sx0).toArray) := by
  have h1 := zero_sts
  cases h2 : Tryz.prog.info? 81 with
  | none => rw [h2] at h1; cases h1
  | some i => rw [h2] at h1; exact ⟨i, rfl, h1⟩
 generalize (sxC sx0).toArray = Z at *
 unfold Oper.wp execOp
 have hr : (Instr.alloc 81 true (.tuple #[])).run Tryz.prog w = .ok (.pointer (some ⟨w.heap.size, 0, none⟩)) (w.alloc (.cells Z 81)) := by
  simp [Instr.alloc, zeroValue, typeInfo, hi, hz, newVar, newRow, Value.cells]
 simp only [ho, Sem.run_bind, Sem.run_pure, hr, Result.andThen_ok]
 exact hK _ _ h
theorem wpList_stoS {ops : Array Oper} {rest : List Oper} {op : Oper} {a : Act} {w : World} {Q : Exit → Act → World → Prop} (hgd : op.guard = none) (x y : Operand) (ho : op.op = .store 81 x y)
  (w0 : World) (b : Nat) (z : Sx) (hz : SxOk z) (hx : a.eval x = .pointer (some ⟨b, 0, none⟩)) (hy : a.eval y = .agg (sxC z).toArray) (hw : w = w0.alloc (.cells (sxC sx0).toArray 81)) (hb : b = w0.heap.size)
  (h : wpList Tryz.prog ops Q rest (a.put op.dst undef) (w0.alloc (.cells (sxC z).toArray 81))) : wpList Tryz.prog ops Q (op :: rest) a w := by
 refine wpList_plain hgd fun K hK => ?_
 unfold Oper.wp execOp
 have hrun := run_storeVar_new (P := Tryz.prog) w0 81 (sxC sx0).toArray (sxC z).toArray (by rw [List.size_toArray]; exact sts_info hz) (by rw [List.size_toArray, List.size_toArray, sxC_len sx0_ok, sxC_len hz]) (all_oneCell_toArray (sxC_one z))
 rw [← hb, ← hw] at hrun
 simp only [ho, hx, hy, Instr.storeAt, Instr.sureAddr, Sem.run_bind, Sem.run_pure, Result.andThen_ok, hrun]
 exact hK _ _ h
section
variable {w : World} {b : Nat} {st : List StP} {v2 v3 : Value} {th : List TrH} {es : ByteArray} {p : Py} {vo vS vR : Value} {l : List Sx} {rows : List ByteArray}
theorem CoV.step {w' : World} {p' : Py} {vo' : Value} (h : CoV w b st v2 v3 th es p vo vS vR l rows) (hp : PyV w' b st ⟨v2, v3, th, [.string es, vS, vR], 87⟩ p' vo') (he : EvY b vo vo' w w') : CoV w' b st v2 v3 th es p' vo' vS vR l rows := by
 have hS : ∀ k, vS.ownBlock = some k → ¬ OwnY b vo k := fun k hk ho => by
  have h1 := h.bS k hk
  rcases ho with e | e
  ·omega
  ·exact (h.dS k hk).1 e
 have hR : ∀ k, vR.ownBlock = some k → ¬ OwnY b vo k := fun k hk ho => by
  have h1 := h.bR k hk
  rcases ho with e | e
  ·omega
  ·exact h.dR k hk e
 refine ⟨hp, row_fr h.rS he.fr hS, row_fr h.rR he.fr hR, h.bS, h.bR, fun k hk => ⟨fun e => ?_, (h.dS k hk).2⟩, fun k hk e => ?_, h.lo⟩
 ·exact hS k hk (he.own k (h.rS.lt k hk).2 (Or.inr e))
 ·exact hR k hk (he.own k (h.rR.lt k hk).2 (Or.inr e))
structure TxV (w : World) (b : Nat) (cv : Value) (t : List UInt8) (vo vS vR : Value) : Prop where
 r : w.ownsRow (b + 1) 5 1 cv t.length (byV t)
 d : ∀ j, cv.ownBlock = some j → vo.ownBlock ≠ some j ∧ vS.ownBlock ≠ some j ∧ vR.ownBlock ≠ some j
theorem TxV.fr0 {w' : World} {cv : Value} {t : List UInt8} (h : TxV w b cv t vo vS vR) (f : Fr (fun _ => False) w w') : TxV w' b cv t vo vS vR := ⟨row_frB h.r f (fun _ _ h => h), h.d⟩
theorem TxV.push {w2 : World} {cv cv' : Value} {t m : List UInt8} (h : TxV w b cv t vo vS vR) (hV : CoV w b st v2 v3 th es p vo vS vR l rows)
    (hrow : w2.ownsRow (b + 1) 5 1 cv' (t ++ m).length (byV (t ++ m))) (hgrow : w.grownBy w2 cv.ownBlock) (hold : ∀ k, k < w.heap.size → cv'.ownBlock = some k → cv.ownBlock = some k) :
    TxV w2 b cv' (t ++ m) vo vS vR ∧ CoV w2 b st v2 v3 th es p vo vS vR l rows ∧ Fr (fun k => b < k) w w2 := by
  have hG : Fr (fun j => cv.ownBlock = some j) w w2 := Fr.grown _ hgrow (fun _ e => e)
  have hb : ∀ j, cv.ownBlock = some j → b < j := fun j hj => (h.r.lt j hj).1
  refine ⟨⟨hrow, fun j hj => ?_⟩, ⟨?_, row_fr hV.rS hG (fun k hk e => (h.d k e).2.1 hk), row_fr hV.rR hG (fun k hk e => (h.d k e).2.2 hk), hV.bS, hV.bR, hV.dS, hV.dR, hV.lo⟩, hG.mono (fun k _ e => hb k e)⟩
  · by_cases hlt : j < w.heap.size
    · exact h.d j (hold j hlt hj)
    · refine ⟨fun e => ?_, fun e => ?_, fun e => ?_⟩
      · have := (hV.py.roB j e).2; omega
      · have := (hV.rS.lt j e).2; omega
      · have := (hV.rR.lt j e).2; omega
  · exact hV.py.fr hG (fun k hk e => by
      have h1 := hb k e
      rcases hk with (hk | hk) | hk
      · omega
      · exact (h.d k e).1 hk
      · have := hV.py.np k hk; omega)
end
section
variable {w : World} {b : Nat} {st : List StP} {v2 v3 : Value} {th : List TrH} {es : ByteArray} {p : Py} {vo vS vR : Value} {l : List Sx} {rows : List ByteArray}
theorem CoV.start (h : CoV w b st v2 v3 th es p vo vS vR l rows) (x : Sx) (hx : SxOk x) :
  CoV (((w.setCells b 2 (sxC x)).setCell ⟨b, 704, none⟩ (.slice (some ⟨w.heap.size, 0, none⟩) 0 0)).alloc (.cells #[] 5)) b st v2 v3 th es ⟨x.1, x.2, []⟩ (.slice (some ⟨w.heap.size, 0, none⟩) 0 0) vS vR l rows ∧
  Fr (fun k => k = b) w (((w.setCells b 2 (sxC x)).setCell ⟨b, 704, none⟩ (.slice (some ⟨w.heap.size, 0, none⟩) 0 0)).alloc (.cells #[] 5)) := by
 have hcm : (((w.setCells b 2 (sxC x)).setCell ⟨b, 704, none⟩ (.slice (some ⟨w.heap.size, 0, none⟩) 0 0)).alloc (.cells #[] 5)) = (((w.setCells b 2 (sxC x)).alloc (.cells #[] 5)).setCell ⟨b, 704, none⟩ (.slice (some ⟨w.heap.size, 0, none⟩) 0 0)) := (World.setCell_alloc_past _ _ _ _ (by rw [sets_size]; exact Blk.lt h.py.blk)).symm
 rw [hcm]
 have f : Fr (· = b) w (w.setCells b 2 (sxC x)) := Fr.setsr (S := (· = b)) (Or.inl rfl) _ _ (Fr.refl _ _)
 have hsz : (w.setCells b 2 (sxC x)).heap.size = w.heap.size := sets_size b _ 2 w
 have h1 := (h.py.setNow x hx).newOut
 rw [hsz] at h1
 have f2 : Fr (fun k => k = b) w (((w.setCells b 2 (sxC x)).alloc (.cells #[] 5)).setCell ⟨b, 704, none⟩ (.slice (some ⟨w.heap.size, 0, none⟩) 0 0)) := (f.allocr _).setCellr _ _ (Or.inl rfl)
 refine ⟨⟨h1, row_fr h.rS f2 (fun k hk e => by have := h.bS k hk; omega), row_fr h.rR f2 (fun k hk e => by have := h.bR k hk; omega), h.bS, h.bR, fun k hk => ⟨fun e => ?_, (h.dS k hk).2⟩, fun k hk e => ?_, h.lo⟩, f2⟩
 ·simp only [Value.ownBlock, Option.some.injEq] at e
  have := (h.rS.lt k hk).2; omega
 ·simp only [Value.ownBlock, Option.some.injEq] at e
  have := (h.rR.lt k hk).2; omega
theorem TxV.start {cv : Value} {t : List UInt8} (h : TxV w b cv t vo vS vR) {w' : World} (f : Fr (fun k => k = b) w w') : TxV w' b cv t (.slice (some ⟨w.heap.size, 0, none⟩) 0 0) vS vR :=
 ⟨row_frB h.r f (fun k hk e => by have := (h.r.lt k hk).1; omega), fun j hj => ⟨fun e => by
  simp only [Value.ownBlock, Option.some.injEq] at e
  have := (h.r.lt j hj).2; omega, (h.d j hj).2⟩⟩
theorem TxV.step {cv vo' : Value} {t : List UInt8} {w' : World} (h : TxV w b cv t vo vS vR) (he : EvY b vo vo' w w') : TxV w' b cv t vo' vS vR := by
 have hN : ∀ k, cv.ownBlock = some k → ¬ OwnY b vo k := fun k hk ho => by
  have h1 := (h.r.lt k hk).1
  rcases ho with e | e
  ·omega
  ·exact (h.d k hk).1 e
 exact ⟨row_frB h.r he.fr hN, fun j hj => ⟨fun e => hN j hj (he.own j (h.r.lt j hj).2 (Or.inr e)), (h.d j hj).2⟩⟩
theorem TxV.other {cv vS' : Value} {t : List UInt8} {w' : World} (h : TxV w b cv t vo vS vR) (f : Fr (fun k => k = b ∨ vS.ownBlock = some k) w w') (hn : ∀ k, k < w.heap.size → vS'.ownBlock = some k → vS.ownBlock = some k) : TxV w' b cv t vo vS' vR :=
 ⟨row_frB h.r f (fun k hk e => by
  have h1 := (h.r.lt k hk).1
  rcases e with e | e
  ·omega
  ·exact (h.d k hk).2.1 e), fun j hj => ⟨(h.d j hj).1, fun e => (h.d j hj).2.1 (hn j (h.r.lt j hj).2 e), (h.d j hj).2.2⟩⟩
end
structure ItO (H : Nat) (T : World → Prop) : Prop where
 keep : ∀ (w w' : World) (S : Nat → Prop), T w → Fr S w w' → (∀ k, S k → H ≤ k) → T w'
 call : ∀ (w : World) (n : Nat), T w → n ≤ 100000 → Calls Tryz.prog 46 #[.int .i64 n] w fun e w' => e = .returned (.string ⟨(Lib.decDigits n).toArray⟩) ∧ Fr (fun _ => False) w w'


def sxP (p : Py) : Sx := (p.act, p.mm)
def spS (st : List StP) (th : List TrH) (ev : UInt8) (x : Sx) : Py := spF st th ev ⟨x.1, x.2, []⟩
def ceK (st : List StP) (th : List TrH) (es : ByteArray) (x : Sx) (l : List Sx) : Nat → List Sx × List UInt8
 | 0 => (l, [])
 | k + 1 => (adS (ceK st th es x l k).1 (sxP (spS st th (byte es k) x)), (((ceK st th es x l k).2 ++ (if k = 0 then [] else [44])) ++ Lib.decDigits (nuS (ceK st th es x l k).1 (sxP (spS st th (byte es k) x)))) ++ [58] ++ (spS st th (byte es k) x).out)
theorem adS_pre (l : List Sx) (x : Sx) : l <+: adS l x := by
 unfold adS; split
 ·exact List.prefix_refl _
 ·exact List.prefix_append _ _
theorem ceK_pre (st : List StP) (th : List TrH) (es : ByteArray) (x : Sx) (l : List Sx) : ∀ k, l <+: (ceK st th es x l k).1
 | 0 => List.prefix_refl _
 | k + 1 => (ceK_pre st th es x l k).trans (adS_pre _ _)
theorem nuS_le (l : List Sx) (x : Sx) : nuS l x ≤ l.length := by
 unfold nuS
 rcases firstB_spec (eqS l x) l.length with ⟨h1, -⟩ | ⟨k, h1, h2, -, -⟩
 ·rw [h1]; exact Nat.le_refl _
 ·rw [h1]; exact Nat.le_of_lt h2
theorem ceK_llen (st : List StP) (th : List TrH) (es : ByteArray) (x : Sx) (l : List Sx) : ∀ k, (ceK st th es x l k).1.length ≤ l.length + k
 | 0 => Nat.le_refl _
 | k + 1 => by
  have ih := ceK_llen st th es x l k
  show (adS (ceK st th es x l k).1 _).length ≤ _
  rw [adS]
  split
  ·omega
  ·rw [List.length_append]; simp; omega
theorem nDig_le : ∀ (k u : Nat), u < 10 ^ (k + 1) → Lib.nDigits u ≤ k + 1
 | 0, u, h => by rw [Lib.nDigits_small (by simpa using h)]; exact Nat.le_refl _
 | k + 1, u, h => by
  by_cases h1 : u < 10
  ·rw [Lib.nDigits_small h1]; omega
  ·rw [Lib.nDigits_big h1]
   rw [Nat.pow_succ] at h
   have := nDig_le k (u / 10) (by omega)
   omega
theorem decD_len {n : Nat} (h : n ≤ 100000) : (Lib.decDigits n).length ≤ 6 := by
 rw [Lib.decDigits_length]
 exact nDig_le 5 n (by omega)
theorem ceK_tlen {st : List StP} {th : List TrH} (ht : Tr st) (hz : SzOk st) (hT : ∀ t ∈ th, TrOk st t.q ∧ t.q.acts.size ≤ 160) (es : ByteArray) (x : Sx) (l : List Sx) (hl : l.length ≤ 1000) : ∀ k, k ≤ 1000 → (ceK st th es x l k).2.length ≤ k * 220488
 | 0, _ => Nat.le_refl _
 | k + 1, hk => by
  have ih := ceK_tlen ht hz hT es x l hl k (by omega)
  have h1 := spF_olen ht hz hT (byte es k) ⟨x.1, x.2, []⟩
  have h2 : (spS st th (byte es k) x).out.length ≤ 220480 := by
   have : ({ act := x.1, mm := x.2, out := [] } : Py).out.length = 0 := rfl
   rw [this] at h1
   unfold spS; omega
  have h3 := nuS_le (ceK st th es x l k).1 (sxP (spS st th (byte es k) x))
  have h4 := ceK_llen st th es x l k
  have h5 := decD_len (n := nuS (ceK st th es x l k).1 (sxP (spS st th (byte es k) x))) (by omega)
  have h6 : (if k = 0 then ([] : List UInt8) else [44]).length ≤ 1 := by split <;> simp
  rw [ceK]
  simp only [List.length_append, List.length_cons, List.length_nil]
  rw [Nat.succ_mul]
  omega
end Go.Proofs.YtmolmbeeoecnfaaGreatDoor
