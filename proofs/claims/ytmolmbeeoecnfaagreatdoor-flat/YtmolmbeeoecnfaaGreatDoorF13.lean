/- Own work: PyZ1. -/
import Derived.Test.YtmolmbeeoecnfaaGreatDoorF12
import Derived.Deep.MidRow
import Derived.ChangeKeysEq
import Derived.Deep.WholeRow
/- Own work: walks of the program's plan, read while it is played: isBelow, innerTowards, innerAmong, scope; sets. -/
namespace Go.Proofs.YtmolmbeeoecnfaaGreatDoor
open Go.RowKit Go.BigFrame
set_option linter.unusedVariables false
set_option linter.unusedSimpArgs false

structure Wp where
 v2 : Value
 v3 : Value
 th : List TrH
 tl : List Value
 ty : TypeId
structure PlR (w : World) (st : List StP) (ws : Wp) : Prop where
 r2 : w.ownsRow 0 115 10 ws.v2 st.length (st.flatMap StP.cells)
 r3 : w.ownsRow 0 121 9 ws.v3 ws.th.length (ws.th.flatMap TrH.cells)
 rc : ∀ t ∈ ws.th, w.ownsRow 0 123 4 t.cv t.q.conds.length (t.q.conds.flatMap CdP.cells)
def OwnP (ws : Wp) (k : Nat) : Prop := ws.v2.ownBlock = some k ∨ ws.v3.ownBlock = some k ∨ ∃ t ∈ ws.th, t.cv.ownBlock = some k
theorem PlR.fr {w w' : World} {st : List StP} {ws : Wp} {S : Nat → Prop} (h : PlR w st ws) (f : Fr S w w') (hS : ∀ k, OwnP ws k → ¬ S k) : PlR w' st ws where
 r2 := row_fr h.r2 f (fun k hk => hS k (Or.inl hk))
 r3 := row_fr h.r3 f (fun k hk => hS k (Or.inr (Or.inl hk)))
 rc := fun t ht => row_fr (h.rc t ht) f (fun k hk => hS k (Or.inr (Or.inr ⟨t, ht, hk⟩)))
theorem PlR.fr0 {w w' : World} {st : List StP} {ws : Wp} (h : PlR w st ws) (f : Fr (fun _ => False) w w') : PlR w' st ws := h.fr f (fun _ _ h => h)
theorem PlV.toR {w : World} {b : Nat} {st : List StP} {ws : Ws} (h : PlV w b st ws) (tl : List Value) (ty : TypeId) : PlR w st ⟨ws.v2, ws.v3, ws.th, tl, ty⟩ := ⟨h.r2, h.r3, h.rc⟩

def endAt (st : List StP) (k : Nat) : Nat := match st[k]? with | some x => x.end_ | none => 0
def outAt (st : List StP) (k : Nat) : Int := match st[k]? with | some x => x.outer | none => -1
def kindAt (st : List StP) (k : Nat) : Nat := match st[k]? with | some x => x.kind | none => 0
theorem endAt_at {st : List StP} {k : Nat} {x : StP} (h : st[k]? = some x) : endAt st k = x.end_ := by simp [endAt, h]
theorem outAt_at {st : List StP} {k : Nat} {x : StP} (h : st[k]? = some x) : outAt st k = x.outer := by simp [outAt, h]
theorem kindAt_at {st : List StP} {k : Nat} {x : StP} (h : st[k]? = some x) : kindAt st k = x.kind := by simp [kindAt, h]

def isB (st : List StP) (s o : Nat) : Bool := decide (o < s) && decide (s < endAt st o)

set_option maxRecDepth 100000 in
set_option maxHeartbeats 1000000 in
theorem isBelow_any (w : World) (st : List StP) (ws : Wp) (s o : Nat) (hp : PlR w st ws) (ho : o < st.length) :
  Calls Tryz.prog 83 #[.agg #[ws.v2, ws.v3], .int .i64 s, .int .i64 o] w fun e w' => e = .returned (.bool (isB st s o)) ∧ Fr (fun _ => False) w w' := by
 obtain ⟨gg, cc, hv3, hcc⟩ := row_form hp.r2 (by omega)
 obtain ⟨x, hx⟩ : ∃ x, st[o]? = some x := ⟨_, List.getElem?_eq_getElem ho⟩
 have hr := row_fr hp.r2 (Fr.alloc (fun _ => False) w (.cells #[ws.v2, ws.v3] 39)) (fun _ _ h => h)
 rw [hv3] at hr ⊢
 obtain ⟨x0, x1, x2, x3, x4, x5, x6, x7, x8, x9⟩ := st10 hr hx
 have HE : Hid _ := endAt_at hx
 clear hx hr hv3
 by_cases h1 : o < s
 ·by_cases h2 : (s : Int) < x.end_
  ·have HB : Hid (isB st s o = true) := by show _ = _; simp only [isB, HE.out]; simp [h1]; omega
   go_enter Tryz.func83, Tryz.ntmps83
   go_wp2_with fail
   go_ret
   rw [HB.out]
   exact ⟨rfl, by (repeat (first | exact Fr.refl _ _ | assumption | refine Fr.drewNr ?_ _ | refine Fr.drewr ?_ | refine Fr.allocr ?_ _ | refine Fr.setCellr ?_ _ _ (by first | exact Or.inl rfl | (right; simp; done) | (right; simp; omega))))⟩
  ·have HB : Hid (isB st s o = false) := by show _ = _; simp only [isB, HE.out]; simp [h1]; omega
   go_enter Tryz.func83, Tryz.ntmps83
   go_wp2_with fail
   go_ret
   rw [HB.out]
   exact ⟨rfl, by (repeat (first | exact Fr.refl _ _ | assumption | refine Fr.drewNr ?_ _ | refine Fr.drewr ?_ | refine Fr.allocr ?_ _ | refine Fr.setCellr ?_ _ _ (by first | exact Or.inl rfl | (right; simp; done) | (right; simp; omega))))⟩
 ·have HB : Hid (isB st s o = false) := by show _ = _; simp only [isB]; simp [h1]
  go_enter Tryz.func83, Tryz.ntmps83
  go_wp2_with fail
  go_ret
  rw [HB.out]
  exact ⟨rfl, by (repeat (first | exact Fr.refl _ _ | assumption | refine Fr.drewNr ?_ _ | refine Fr.drewr ?_ | refine Fr.allocr ?_ _ | refine Fr.setCellr ?_ _ _ (by first | exact Or.inl rfl | (right; simp; done) | (right; simp; omega))))⟩

def bV (l : List Bool) : List Value := l.map .bool
def setV (l : List Bool) : Value := .agg (bV l).toArray

theorem row_gg {w : World} {st : List StP} {ws : Wp} (hp : PlR w st ws) (hs : 0 < st.length) : ∃ gg cc, ws.v2 = .slice (some ⟨gg, 0, none⟩) st.length cc ∧ st.length ≤ cc ∧ gg < w.heap.size := by
 obtain ⟨gg, cc, hv, hc⟩ := row_form hp.r2 hs
 exact ⟨gg, cc, hv, hc, (hp.r2.lt gg (by rw [hv]; rfl)).2⟩

structure Wf (st : List StP) : Prop where
 len : st.length ≤ 26
 en : ∀ (k : Nat) (x : StP), st[k]? = some x → k < x.end_ ∧ x.end_ ≤ st.length
 ou : ∀ (k : Nat) (x : StP), st[k]? = some x → -1 ≤ x.outer ∧ x.outer < k
 inn : ∀ (k : Nat) (x : StP), st[k]? = some x → x.kind ≠ 0 → k + 1 < x.end_

def mem (l : List Bool) (k : Nat) : Bool := match l[k]? with | some v => v | none => false
theorem mem_cell {w : World} {q : Nat} {l : List Bool} {k : Nat} {t : TypeId} (h : Blk w q (bV l).toArray t) (hk : k < l.length) : w.cell? ⟨q, k, none⟩ = some (.bool (mem l k)) := by
 rw [Blk.cell h]
 simp [bV, mem, hk]

def inA (st : List StP) (s : Nat) (l : List Bool) (k : Nat) : Bool := decide (s < k) && (outAt st k == (s : Int) && mem l k)
def inAm (st : List StP) (s : Nat) (l : List Bool) : Nat := match firstB (inA st s l) (endAt st s) with | some k => k | none => s + 1

set_option maxRecDepth 100000 in
set_option maxHeartbeats 1000000 in
theorem innerAmong_any (w : World) (st : List StP) (ws : Wp) (s : Nat) (l : List Bool) (hwf : Wf st) (hp : PlR w st ws) (hs : s < st.length) (hl : l.length = 26) :
    Calls Tryz.prog 82 #[.agg #[ws.v2, ws.v3], .int .i64 s, setV l] w fun e w' => e = .returned (.int .i64 (inAm st s l)) ∧ Fr (fun _ => False) w w' := by
  obtain ⟨gg, cc, hv3, hcc, hgl⟩ := row_gg hp (by omega)
  obtain ⟨y, hy⟩ : ∃ y, st[s]? = some y := ⟨_, List.getElem?_eq_getElem hs⟩
  have hen := hwf.en s y hy
  have hlen := hwf.len
  have HY : Hid (st[s]? = some y) := hy
  have HE : Hid _ := endAt_at hy
  have HP : Hid (PlR w st ws) := hp
  have HL : Hid (l.length = 26) := hl
  unfold setV
  have hbl : Blk ((w.alloc (.cells #[ws.v2, ws.v3] 39)).alloc (.cells (bV l).toArray 78)) (w.heap.size + 1) (bV l).toArray 78 := Blk.new' _ _ _ _ (by simp)
  have hbp : Blk ((w.alloc (.cells #[ws.v2, ws.v3] 39)).alloc (.cells (bV l).toArray 78)) w.heap.size #[ws.v2, ws.v3] 39 := (Blk.new _ _ _).alloc _
  have hfw : Fr (fun _ => False) w ((w.alloc (.cells #[ws.v2, ws.v3] 39)).alloc (.cells (bV l).toArray 78)) := by (repeat (first | exact Fr.refl _ _ | assumption | refine Fr.drewNr ?_ _ | refine Fr.drewr ?_ | refine Fr.allocr ?_ _ | refine Fr.setCellr ?_ _ _ (by first | exact Or.inl rfl | (right; simp; done) | (right; simp; omega))))
  have HV : Hid (ws.v2 = .slice (some ⟨gg, 0, none⟩) st.length cc) := hv3
  rw [hv3] at hbl hbp hfw ⊢
  clear hv3 hp hy hl
  generalize hA : (bV l).toArray = A at *
  have HA : Hid _ := hA
  clear hA
  go_enter Tryz.func82, Tryz.ntmps82
  go_wp2_with fail
  generalize ((w.alloc (.cells #[.slice (some ⟨gg, 0, none⟩) st.length cc, ws.v3] 39)).alloc (.cells A 78)) = W at *
  go_loopw [7] (fun i wr => ∃ k : Nat, s < k ∧ k ≤ y.end_ ∧ i = .int .i64 k ∧ Hid (∀ j, j < k → inA st s l j = false) ∧ Fr (fun _ => False) W wr) (fun i _ => y.end_ - (intOf i).toNat)
  case atStart => exact ⟨s + 1, by omega, by omega, by go_num, fun j hj => by simp [inA]; omega, Fr.refl _ _⟩
  case round =>
    obtain ⟨k, hsk, hk, rfl, HJ, hfr⟩ := hrel
    have hpr := HP.out.fr0 (hfw.thenr hfr (fun _ _ h => h))
    have hr := hpr.r2
    rw [HV.out] at hr
    obtain ⟨-, -, -, -, -, y5, -⟩ := st10 hr HY.out
    have c0 : wr.cell? ⟨w.heap.size, 0, none⟩ = some (.slice (some ⟨gg, 0, none⟩) st.length cc) := by rw [Blk.cell (Blk.fr hbp hfr (fun h => h))]; rfl
    have hbr := Blk.fr hbl hfr (fun h => h)
    by_cases hlt : (k : Int) < y.end_
    · have hlt' : k < st.length := by omega
      obtain ⟨x, hx⟩ : ∃ x, st[k]? = some x := ⟨_, List.getElem?_eq_getElem hlt'⟩
      obtain ⟨-, -, -, -, x4, -⟩ := st10 hr hx
      have HO : Hid _ := outAt_at hx
      have m0 : wr.cell? ⟨w.heap.size + 1, k, none⟩ = some (.bool (mem l k)) := by
        rw [← HA.out] at hbr; exact mem_cell hbr (by rw [HL.out]; omega)
      clear hx hr hpr hbr
      by_cases e : x.outer = s
      · cases hm : mem l k with
        | true =>
          rw [hm] at m0
          have HI : Hid (inAm st s l = k) := by
            show _ = _
            rw [inAm, firstB_some (inA st s l) k (by simp [inA, HO.out, hm, e, hsk]) HJ.out _ (by rw [HE.out]; omega)]
          go_wp2_with fail
          go_ret
          exact ⟨ret_i64 (by rw [HI.out]), (hfw.thenr hfr (fun _ _ h => h))⟩
        | false =>
          rw [hm] at m0
          go_wp2_with fail
          go_roundw
          case rel => exact ⟨k + 1, by omega, by omega, by go_num, below_step HJ.out (by simp [inA, hm]), hfr⟩
          case measure => simp [intOf]; omega
      · have he : (x.outer == (s : Int)) = false := by simpa using e
        go_wp2_with fail
        go_roundw
        case rel => exact ⟨k + 1, by omega, by omega, by go_num, below_step HJ.out (by simp [inA, HO.out, he]), hfr⟩
        case measure => simp [intOf]; omega
    · have HI : Hid (inAm st s l = s + 1) := by
        show _ = _
        rw [inAm, firstB_none (inA st s l) _ (fun j hj => HJ.out j (by rw [HE.out] at hj; omega))]
      go_wp2_with fail
      go_ret
      exact ⟨ret_i64 (by rw [HI.out]; rfl), (hfw.thenr hfr (fun _ _ h => h))⟩

def inT (st : List StP) (s t k : Nat) : Bool := decide (s < k) && (outAt st k == (s : Int) && (k == t || isB st t k))
def inTo (st : List StP) (s t : Nat) : Nat := match firstB (inT st s t) (endAt st s) with | some k => k | none => s + 1

set_option maxRecDepth 100000 in
set_option maxHeartbeats 1000000 in
theorem innerTowards_any (w : World) (st : List StP) (ws : Wp) (s t : Nat) (hwf : Wf st) (hp : PlR w st ws) (hs : s < st.length) :
    Calls Tryz.prog 84 #[.agg #[ws.v2, ws.v3], .int .i64 s, .int .i64 t] w fun e w' => e = .returned (.int .i64 (inTo st s t)) ∧ Fr (fun _ => False) w w' := by
  obtain ⟨gg, cc, hv3, hcc, hgl⟩ := row_gg hp (by omega)
  obtain ⟨y, hy⟩ : ∃ y, st[s]? = some y := ⟨_, List.getElem?_eq_getElem hs⟩
  have hen := hwf.en s y hy
  have hlen := hwf.len
  have HY : Hid (st[s]? = some y) := hy
  have HE : Hid _ := endAt_at hy
  have HP : Hid (PlR w st ws) := hp
  have hbp : Blk (w.alloc (.cells #[ws.v2, ws.v3] 39)) w.heap.size #[ws.v2, ws.v3] 39 := (Blk.new _ _ _)
  have hfw : Fr (fun _ => False) w (w.alloc (.cells #[ws.v2, ws.v3] 39)) := by (repeat (first | exact Fr.refl _ _ | assumption | refine Fr.drewNr ?_ _ | refine Fr.drewr ?_ | refine Fr.allocr ?_ _ | refine Fr.setCellr ?_ _ _ (by first | exact Or.inl rfl | (right; simp; done) | (right; simp; omega))))
  have HV : Hid (ws.v2 = .slice (some ⟨gg, 0, none⟩) st.length cc) := hv3
  rw [hv3] at hbp hfw ⊢
  clear hv3 hp hy
  go_enter Tryz.func84, Tryz.ntmps84
  go_wp2_with fail
  generalize (w.alloc (.cells #[.slice (some ⟨gg, 0, none⟩) st.length cc, ws.v3] 39)) = W at *
  go_loopw [7] (fun i wr => ∃ k : Nat, s < k ∧ k ≤ y.end_ ∧ i = .int .i64 k ∧ Hid (∀ j, j < k → inT st s t j = false) ∧ Fr (fun _ => False) W wr) (fun i _ => y.end_ - (intOf i).toNat)
  case atStart => exact ⟨s + 1, by omega, by omega, by go_num, fun j hj => by simp [inT]; omega, Fr.refl _ _⟩
  case round =>
    obtain ⟨k, hsk, hk, rfl, HJ, hfr⟩ := hrel
    have hpr := HP.out.fr0 (hfw.thenr hfr (fun _ _ h => h))
    have hr := hpr.r2
    rw [HV.out] at hr
    obtain ⟨-, -, -, -, -, y5, -⟩ := st10 hr HY.out
    have hbr := Blk.fr hbp hfr (fun h => h)
    have c0 : wr.cell? ⟨w.heap.size, 0, none⟩ = some (.slice (some ⟨gg, 0, none⟩) st.length cc) := by rw [Blk.cell hbr]; rfl
    have c1 : wr.cell? ⟨w.heap.size, 1, none⟩ = some ws.v3 := by rw [Blk.cell hbr]; rfl
    by_cases hlt : (k : Int) < y.end_
    · have hlt' : k < st.length := by omega
      obtain ⟨x, hx⟩ : ∃ x, st[k]? = some x := ⟨_, List.getElem?_eq_getElem hlt'⟩
      obtain ⟨-, -, -, -, x4, -⟩ := st10 hr hx
      have HO : Hid _ := outAt_at hx
      clear hx hr hbr
      by_cases e : x.outer = s
      · have hfo := hfw.thenr hfr (fun _ _ h => h)
        by_cases e2 : k = t
        · have HI : Hid (inTo st s t = k) := by
            show _ = _
            rw [inTo, firstB_some (inT st s t) k (by rw [← e2]; simp [inT, HO.out, e, hsk]) HJ.out _ (by rw [HE.out]; omega)]
          clear hpr
          subst e2
          go_wp2_with fail
          go_ret
          exact ⟨ret_i64 (by rw [HI.out]), hfo⟩
        · have e2' : ((k : Int) == t) = false := by simp; omega
          go_wp2_with fail
          have hcall := isBelow_any wr st ws t k hpr hlt'
          rw [HV.out] at hcall
          refine hcall.mono ?_
          clear hcall hpr
          rintro e' w2 ⟨rfl, hf2⟩
          have hfr2 := hfr.thenr hf2 (fun _ _ h => h)
          have hfo2 := hfw.thenr hfr2 (fun _ _ h => h)
          cases hm : isB st t k with
          | true =>
            have HI : Hid (inTo st s t = k) := by
              show _ = _
              rw [inTo, firstB_some (inT st s t) k (by simp [inT, HO.out, e, hsk, hm]) HJ.out _ (by rw [HE.out]; omega)]
            go_wp2_with fail
            go_ret
            exact ⟨ret_i64 (by rw [HI.out]), hfo2⟩
          | false =>
            go_wp2_with fail
            go_roundw
            case rel => exact ⟨k + 1, by omega, by omega, by go_num, below_step HJ.out (by simp [inT, hm, e2]), hfr2⟩
            case measure => simp [intOf]; omega
      · have he : (x.outer == (s : Int)) = false := by simpa using e
        clear hpr
        go_wp2_with fail
        go_roundw
        case rel => exact ⟨k + 1, by omega, by omega, by go_num, below_step HJ.out (by simp [inT, HO.out, he]), hfr⟩
        case measure => simp [intOf]; omega
    · have HI : Hid (inTo st s t = s + 1) := by
        show _ = _
        rw [inTo, firstB_none (inT st s t) _ (fun j hj => HJ.out j (by rw [HE.out] at hj; omega))]
      clear hpr
      go_wp2_with fail
      go_ret
      exact ⟨ret_i64 (by rw [HI.out]; rfl), (hfw.thenr hfr (fun _ _ h => h))⟩

def scF (st : List StP) (ts : Nat) : Nat → Int → Int
 | 0, _ => -1
 | f + 1, s => if s = -1 then -1 else if kindAt st s.toNat == 1 && isB st ts s.toNat then s else scF st ts f (outAt st s.toNat)
def scOf (st : List StP) (t : TrQ) : Int := scF st t.ts.toNat (st.length + 1) (outAt st t.own)

theorem bV_len (l : List Bool) : (bV l).length = l.length := by simp [bV]
theorem rangeB {w : World} {b : Nat} {cs : List Value} {t : TypeId} (h : Blk w b cs.toArray t) : w.rangeAt b 0 cs := fun j v hv => by
 rw [Blk.cell h]; simpa using hv
theorem setInfo {l : List Bool} (hl : l.length = 26) : (Tryz.prog.info? 78).map (·.size) = some (bV l).length := by
 rw [bV_len, hl]; kernel_rfl

theorem run_eqB (w : World) (l m : List Bool) (c : Nat) (hc : c = 1) : ∀ is : List Nat, (∀ i ∈ is, i < l.length ∧ i < m.length) →
  (Op.eqItems 9999 4 c (bV l).toArray (bV m).toArray is).run Tryz.prog w = .ok (is.all fun i => mem l i == mem m i) w
 | [], _ => by simp [Op.eqItems]
 | i :: is, h => by
  subst hc
  have h1 := h i (by simp)
  have pk : Tryz.prog.plainKey 4 = true := by kernel_rfl
  have g1 : (bV l).toArray[i * 1]? = some (.bool (mem l i)) := by simp [bV, mem, h1.1]
  have g2 : (bV m).toArray[i * 1]? = some (.bool (mem m i)) := by simp [bV, mem, h1.2]
  have ih := run_eqB w l m 1 rfl is (fun j hj => h j (by simp [hj]))
  simp only [Op.eqItems, Sem.run_bind, run_part_plain w pk g1, run_part_plain w pk g2, Result.andThen_ok, run_equalIn_bool w 9998 4 _ _ Tryz.underlying4, List.all_cons]
  cases hq : (mem l i == mem m i)
  ·simp
  ·simpa using ih
theorem run_eqSet (w : World) (l m : List Bool) (hl : l.length = 26) (hm : m.length = 26) :
  (Op.equalIn 10000 78 (.agg (bV l).toArray) (.agg (bV m).toArray)).run Tryz.prog w = .ok ((List.range 26).all fun i => mem l i == mem m i) w := by
 obtain ⟨i, h0⟩ : ∃ i, Tryz.prog.info? 4 = some i := by
  cases h : Tryz.prog.info? 4 with
  | none => exact absurd (show (Tryz.prog.info? 4).isSome = true by kernel_rfl) (by rw [h]; simp)
  | some i => exact ⟨i, rfl⟩
 rw [run_equalIn_array w 9999 _ _ Tryz.underlying78 h0]
 exact run_eqB w l m _ (by kernel_rfl) _ (fun i hi => by rw [hl, hm]; simpa using hi)
def noSet : List Bool := List.replicate 26 false
theorem mem_no (k : Nat) : mem noSet k = false := by
 unfold mem noSet
 rw [List.getElem?_replicate]
 split <;> simp_all
def emp (l : List Bool) : Bool := (List.range 26).all fun i => !mem l i

theorem run_eqNo (w : World) (l : List Bool) (hl : l.length = 26) : (Op.equalIn 10000 78 (.agg (bV l).toArray) (.agg #[.bool false, .bool false, .bool false, .bool false, .bool false, .bool false, .bool false, .bool false, .bool false, .bool false, .bool false, .bool false, .bool false, .bool false, .bool false, .bool false, .bool false, .bool false, .bool false, .bool false, .bool false, .bool false, .bool false, .bool false, .bool false, .bool false])).run Tryz.prog w = .ok (emp l) w := by
 refine (run_eqSet w l noSet hl (by simp [noSet])).trans ?_
 have h : (fun i => mem l i == mem noSet i) = fun i => !mem l i := by funext i; rw [mem_no]; cases mem l i <;> rfl
 rw [h]; rfl

set_option maxRecDepth 100000 in
set_option maxHeartbeats 1000000 in
theorem isEmpty_any (w : World) (l : List Bool) (hl : l.length = 26) :
  Calls Tryz.prog 85 #[setV l] w fun e w' => e = .returned (.bool (emp l)) ∧ Fr (fun _ => False) w w' := by
 unfold setV
 have hb := rangeB (Blk.new w (bV l).toArray 78)
 have hi := setInfo hl
 have he := fun W => run_eqNo W l hl
 go_enter Tryz.func85, Tryz.ntmps85
 go_wp2_with (refine wpList_load_mid rfl 78 _ rfl _ _ rfl _ _ (by assumption) Tryz.underlying78 rfl (by assumption) ?_)
 go_ret
 exact ⟨rfl, by (repeat (first | exact Fr.refl _ _ | assumption | refine Fr.drewNr ?_ _ | refine Fr.drewr ?_ | refine Fr.allocr ?_ _ | refine Fr.setCellr ?_ _ _ (by first | exact Or.inl rfl | (right; simp; done) | (right; simp; omega))))⟩

def mts (l m : List Bool) : Bool := (firstB (fun k => mem l k && mem m k) 26).isSome
theorem ret_b {a b : Bool} (h : a = b) : Ending.returned (.bool a) = .returned (.bool b) := by rw [h]

set_option maxRecDepth 100000 in
set_option maxHeartbeats 1000000 in
theorem meets_any (w : World) (l m : List Bool) (hl : l.length = 26) (hm : m.length = 26) :
    Calls Tryz.prog 89 #[setV l, setV m] w fun e w' => e = .returned (.bool (mts l m)) ∧ Fr (fun _ => False) w w' := by
  unfold setV
  have b1 : Blk ((w.alloc (.cells (bV l).toArray 78)).alloc (.cells (bV m).toArray 78)) w.heap.size (bV l).toArray 78 := (Blk.new _ _ _).alloc _
  have b2 : Blk ((w.alloc (.cells (bV l).toArray 78)).alloc (.cells (bV m).toArray 78)) (w.heap.size + 1) (bV m).toArray 78 := Blk.new' _ _ _ _ (by simp)
  have hfw : Fr (fun _ => False) w ((w.alloc (.cells (bV l).toArray 78)).alloc (.cells (bV m).toArray 78)) := by (repeat (first | exact Fr.refl _ _ | assumption | refine Fr.drewNr ?_ _ | refine Fr.drewr ?_ | refine Fr.allocr ?_ _ | refine Fr.setCellr ?_ _ _ (by first | exact Or.inl rfl | (right; simp; done) | (right; simp; omega))))
  go_enter Tryz.func89, Tryz.ntmps89
  go_wp2_with fail
  have HL : Hid (l.length = 26) := hl
  have HM : Hid (m.length = 26) := hm
  clear hl hm
  generalize ((w.alloc (.cells (bV l).toArray 78)).alloc (.cells (bV m).toArray 78)) = W at *
  go_loopw [6] (fun i wr => ∃ k : Nat, k ≤ 26 ∧ i = .int .i64 k ∧ Hid (∀ j, j < k → (mem l j && mem m j) = false) ∧ Fr (fun _ => False) W wr) (fun i _ => 26 - (intOf i).toNat)
  case atStart => exact ⟨0, by omega, rfl, fun j hj => by omega, Fr.refl _ _⟩
  case round =>
    obtain ⟨k, hk, rfl, HJ, hfr⟩ := hrel
    have hfo := hfw.thenr hfr (fun _ _ h => h)
    by_cases hlt : (k : Int) < 26
    · have c1 := mem_cell (k := k) (Blk.fr b1 hfr (fun h => h)) (by rw [HL.out]; omega)
      have c2 := mem_cell (k := k) (Blk.fr b2 hfr (fun h => h)) (by rw [HM.out]; omega)
      cases h1 : mem l k with
      | false =>
        rw [h1] at c1
        go_wp2_with fail
        go_roundw
        case rel => exact ⟨k + 1, by omega, by go_num, below_step HJ.out (by simp [h1]), hfr⟩
        case measure => simp [intOf]; omega
      | true =>
        rw [h1] at c1
        cases h2 : mem m k with
        | false =>
          rw [h2] at c2
          go_wp2_with fail
          go_roundw
          case rel => exact ⟨k + 1, by omega, by go_num, below_step HJ.out (by simp [h2]), hfr⟩
          case measure => simp [intOf]; omega
        | true =>
          rw [h2] at c2
          have HI : Hid (mts l m = true) := by
            show _ = _
            rw [mts, firstB_some (fun k => mem l k && mem m k) k (by simp [h1, h2]) HJ.out 26 (by omega)]; rfl
          go_wp2_with fail
          go_ret
          exact ⟨ret_b HI.out.symm, hfo⟩
    · have HI : Hid (mts l m = false) := by
        show _ = _
        rw [mts, firstB_none (fun k => mem l k && mem m k) 26 (fun j hj => HJ.out j (by omega))]; rfl
      go_wp2_with fail
      go_ret
      exact ⟨ret_b HI.out.symm, hfo⟩

def unK (l m : List Bool) (k : Nat) : List Bool := (List.range 26).map fun i => if i < k then mem l i || mem m i else mem l i
theorem unK_len (l m : List Bool) (k : Nat) : (unK l m k).length = 26 := by simp [unK]
theorem unK_0 (l m : List Bool) (hl : l.length = 26) : unK l m 0 = l := by
 apply List.ext_getElem? ; intro i
 by_cases h : i < 26
 ·simp [unK, h, mem, hl]
 ·rw [List.getElem?_eq_none (by simp [unK]; omega), List.getElem?_eq_none (by omega)]
theorem mem_unK (l m : List Bool) (k i : Nat) (h : i < 26) : mem (unK l m k) i = if i < k then mem l i || mem m i else mem l i := by
 conv => lhs; unfold mem
 simp [unK, h]
theorem unK_set (l m : List Bool) (k : Nat) (h : k < 26) : (bV (unK l m k)).toArray.setIfInBounds k (.bool (mem l k || mem m k)) = (bV (unK l m (k + 1))).toArray := by
 apply Array.ext_getElem?
 intro i
 rw [Array.getElem?_setIfInBounds]
 by_cases hi : i < 26
 ·by_cases e : k = i
  ·subst e; simp [bV, unK, h]
  ·simp only [e, if_false]
   simp only [bV, unK, List.getElem?_toArray, List.getElem?_map, List.map_map, List.getElem?_range hi, Option.map_some, Function.comp]
   by_cases h2 : i < k
   ·simp [h2, Nat.lt_succ_of_lt h2]
   ·have : ¬ i < k + 1 := by omega
    simp [h2, this]
 ·have e : ¬ k = i := by omega
  simp only [e, if_false]
  rw [Array.getElem?_eq_none (by simp [bV, unK]; omega), Array.getElem?_eq_none (by simp [bV, unK]; omega)]


def setsA (c : Array Value) : Nat → List Value → Array Value
 | _, [] => c
 | o, v :: r => setsA (c.setIfInBounds o v) (o + 1) r
theorem Blk.sets {b : Nat} {e : TypeId} : ∀ (vs : List Value) (o : Nat) {w : World} {c : Array Value}, Blk w b c e → Blk (w.setCells b o vs) b (setsA c o vs) e
 | [], _, _, _, h => h
 | v :: r, o, _, _, h => Blk.sets r (o + 1) (h.set o v)
theorem setsA_get : ∀ (vs : List Value) (o : Nat) (c : Array Value) (i : Nat), o + vs.length ≤ c.size → (setsA c o vs)[i]? = if o ≤ i ∧ i < o + vs.length then vs[i - o]? else c[i]?
 | [], o, c, i, _ => by simp only [setsA, List.length_nil, Nat.add_zero]; rw [if_neg (by omega)]
 | v :: r, o, c, i, h => by
  simp only [List.length_cons] at h
  rw [setsA, setsA_get r (o + 1) _ i (by simp; omega), Array.getElem?_setIfInBounds]
  simp only [List.length_cons]
  by_cases h1 : o = i
  ·subst h1
   rw [if_neg (by omega), if_pos rfl, if_pos (by omega), if_pos (by omega)]
   simp
  ·by_cases h2 : o + 1 ≤ i ∧ i < o + 1 + r.length
   ·rw [if_pos h2, if_pos (by omega), show i - o = (i - (o + 1)) + 1 by omega]; simp
   ·rw [if_neg h2, if_neg h1, if_neg (by omega)]
theorem setsA_all (c : Array Value) (vs : List Value) (h : c.size = vs.length) : setsA c 0 vs = vs.toArray := by
 apply Array.ext_getElem?
 intro i
 rw [setsA_get vs 0 c i (by omega)]
 by_cases h1 : i < vs.length
 ·rw [if_pos (by omega)]; simp
 ·rw [if_neg (by omega), Array.getElem?_eq_none (by omega), Array.getElem?_eq_none (by simp; omega)]
theorem Fr.setsr {S : Nat → Prop} {a : World} {b : Nat} (hp : S b ∨ a.heap.size ≤ b) : ∀ (vs : List Value) (o : Nat) {w : World}, Fr S a w → Fr S a (w.setCells b o vs)
 | [], _, _, h => h
 | v :: r, o, _, h => Fr.setsr hp r (o + 1) (h.setCellr ⟨b, o, none⟩ v hp)
theorem there_of {w : World} {b n : Nat} {c : Array Value} {e : TypeId} (h : Blk w b c e) (o : Nat) (hn : o + n ≤ c.size) : w.there b o n := fun j hj => by
 rw [Blk.cell h, Blk.frozen h]
 refine ⟨?_, rfl⟩
 rw [Array.getElem?_eq_getElem (by omega)]; rfl
theorem one_bV (l : List Bool) : (bV l).toArray.all (·.oneCell') = true := all_oneCell_toArray (fun v hv => by
 obtain ⟨x, -, rfl⟩ := List.mem_map.1 hv; rfl)
theorem setInfo' {l : List Bool} (hl : l.length = 26) : (Tryz.prog.info? 78).map (·.size) = some (bV l).toArray.size := by
 rw [List.size_toArray]; exact setInfo hl
theorem results_cell1 {fn : Func} {p : Tmp} {ty : TypeId} (h : fn.results = #[.cell p ty]) (tmps : Array Value) (P : Program) (w : World) :
  (results fn tmps).run P w = ((asAddr (tmps.getD p undef)).run P w).andThen fun a w₁ => (loadVar ty a).run P w₁ := by
 simp only [results, h]
 simp [Sem.run_bind, Result.andThen]
theorem ret_setC {fn : Func} {p b : Nat} {w : World} {l : List Bool} {tmps : Array Value} (h : fn.results = #[.cell p 78]) (hp : tmps.getD p undef = .pointer (some ⟨b, 0, none⟩)) (hb : Blk w b (bV l).toArray 78) (hl : l.length = 26) :
  (results fn tmps).run Tryz.prog w = .ok (setV l) w := by
 rw [results_cell1 h, hp]
 simp only [asAddr, Sem.run_pure, Result.andThen_ok]
 exact run_loadVar_mid w b 0 78 (bV l) _ (rangeB hb) Tryz.underlying78 rfl (setInfo hl)

set_option maxRecDepth 100000 in
set_option maxHeartbeats 1000000 in
theorem with_any (w : World) (l m : List Bool) (hl : l.length = 26) (hm : m.length = 26) :
  Calls Tryz.prog 90 #[setV l, setV m] w fun e w' => e = .returned (setV (unK l m 26)) ∧ Fr (fun _ => False) w w' := by
 unfold setV
 have b1 : Blk (((w.alloc (.cells (bV l).toArray 78)).alloc (.cells (bV m).toArray 78)).alloc (.cells (bV noSet).toArray 78)) w.heap.size (bV l).toArray 78 := ((Blk.new _ _ _).alloc _).alloc _
 have b2 : Blk (((w.alloc (.cells (bV l).toArray 78)).alloc (.cells (bV m).toArray 78)).alloc (.cells (bV noSet).toArray 78)) (w.heap.size + 1) (bV m).toArray 78 := (Blk.new' _ _ _ _ (by simp)).alloc _
 have b3 : Blk (((w.alloc (.cells (bV l).toArray 78)).alloc (.cells (bV m).toArray 78)).alloc (.cells (bV noSet).toArray 78)) (w.heap.size + 1 + 1) (bV noSet).toArray 78 := Blk.new' _ _ _ _ (by simp)
 have hfw : Fr (fun _ => False) w (((w.alloc (.cells (bV l).toArray 78)).alloc (.cells (bV m).toArray 78)).alloc (.cells (bV noSet).toArray 78)) := by (repeat (first | exact Fr.refl _ _ | assumption | refine Fr.drewNr ?_ _ | refine Fr.drewr ?_ | refine Fr.allocr ?_ _ | refine Fr.setCellr ?_ _ _ (by first | exact Or.inl rfl | (right; simp; done) | (right; simp; omega))))
 go_enter Tryz.func90, Tryz.ntmps90
 go_wp2_with (refine wpList_load_mid rfl 78 _ rfl _ _ rfl _ _ (by assumption) Tryz.underlying78 rfl (by assumption) ?_)
 show Code.wp _ _ _ _ (((w.alloc (.cells (bV l).toArray 78)).alloc (.cells (bV m).toArray 78)).alloc (.cells (bV noSet).toArray 78))
 have HL : Hid (l.length = 26) := hl
 have HM : Hid (m.length = 26) := hm
 clear hl hm
 have HN : Hid (unK l m 0 = l) := unK_0 l m HL.out
 generalize (((w.alloc (.cells (bV l).toArray 78)).alloc (.cells (bV m).toArray 78)).alloc (.cells (bV noSet).toArray 78)) = W at *
 go_loopw [6] (fun i wr => ∃ k : Nat, k ≤ 26 ∧ i = .int .i64 k ∧ Blk wr w.heap.size (bV (unK l m k)).toArray 78 ∧ Fr (· = w.heap.size) W wr) (fun i _ => 26 - (intOf i).toNat)
 case atStart => exact ⟨0, by omega, rfl, by rw [HN.out]; exact b1, Fr.refl _ _⟩
 case round =>
  obtain ⟨k, hk, rfl, hbk, hfr⟩ := hrel
  have hb2 := Blk.fr b2 hfr (by omega)
  have hb3 := Blk.fr b3 hfr (by omega)
  by_cases hlt : (k : Int) < 26
  ·have c1 := mem_cell (k := k) hbk (by rw [unK_len]; omega)
   have c2 := mem_cell (k := k) hb2 (by rw [HM.out]; omega)
   have z1 := Blk.frozen hbk k
   rw [mem_unK l m k k (by omega), if_neg (by omega)] at c1
   have hnx : Blk (wr.setCell ⟨w.heap.size, k, none⟩ (.bool (mem l k || mem m k))) w.heap.size (bV (unK l m (k + 1))).toArray 78 := by
    rw [← unK_set l m k (by omega)]; exact Blk.set hbk k _
   have HX : Hid _ := hnx
   clear hnx hb2 hb3
   cases h1 : mem l k with
   | true =>
    rw [h1] at c1
    rw [h1, Bool.true_or] at HX
    go_wp2_with fail
    go_roundw
    case rel => exact ⟨k + 1, by omega, by go_num, HX.out, hfr.setCellr _ _ (Or.inl rfl)⟩
    case measure => simp [intOf]; omega
   | false =>
    rw [h1] at c1
    rw [h1, Bool.false_or] at HX
    go_wp2_with fail
    go_roundw
    case rel => exact ⟨k + 1, by omega, by go_num, HX.out, hfr.setCellr _ _ (Or.inl rfl)⟩
    case measure => simp [intOf]; omega
  ·have hk26 : k = 26 := by omega
   subst hk26
   have hra := rangeB hbk
   have hin := setInfo (unK_len l m 26)
   have hin' := setInfo' (unK_len l m 26)
   have hone := one_bV (unK l m 26)
   have hth : wr.there (w.heap.size + 1 + 1) 0 (bV (unK l m 26)).toArray.size := there_of hb3 0 (by simp [bV, unK, noSet])
   go_wp2_with (first | (refine wpList_load_mid rfl 78 _ rfl _ _ rfl _ _ (by assumption) Tryz.underlying78 rfl (by assumption) ?_) | (refine wpList_store_mid rfl 78 _ _ rfl _ _ _ rfl rfl (by assumption) (by assumption) (by assumption) ?_))
   have hbz : Blk (wr.setCells (w.heap.size + 1 + 1) 0 (bV (unK l m 26))) (w.heap.size + 1 + 1) (bV (unK l m 26)).toArray 78 := by
    rw [← setsA_all (bV noSet).toArray (bV (unK l m 26)) (by simp [bV, unK, noSet])]; exact Blk.sets _ 0 hb3
   refine bodyPost_ret (v := setV (unK l m 26)) (ret_setC rfl rfl hbz (unK_len l m 26)) rfl ⟨rfl, ?_⟩
   have h2 : Fr (fun _ => False) w wr := hfw.trans hfr (fun _ _ h => h) (fun i hi e => by omega)
   exact Fr.setsr (Or.inr (by omega)) _ 0 h2

def TrOk (st : List StP) (t : TrQ) : Prop := t.own < st.length ∧ 0 ≤ t.ts ∧ t.ts < st.length

theorem scF_bd (st : List StP) (hw : Wf st) (ts : Nat) : ∀ (f : Nat) (s : Int), -1 ≤ s → s < st.length → -1 ≤ scF st ts f s ∧ scF st ts f s < st.length
 | 0, s, _, _ => by simp [scF]; omega
 | f + 1, s, h1, h2 => by
  unfold scF
  split
  ·omega
  ·split
   ·omega
   ·have ho : s.toNat < st.length := by omega
    have hx := hw.ou s.toNat _ (List.getElem?_eq_getElem ho)
    have e := outAt_at (List.getElem?_eq_getElem ho)
    exact scF_bd st hw ts f _ (by omega) (by omega)

set_option maxRecDepth 100000 in
set_option maxHeartbeats 1000000 in
theorem scope_any (w : World) (st : List StP) (ws : Wp) (t : TrH) (hwf : Wf st) (hp : PlR w st ws) (ht : TrOk st t.q) :
  Calls Tryz.prog 93 #[.agg #[ws.v2, ws.v3], .agg t.cells.toArray] w fun e w' => e = .returned (.int .i64 (scOf st t.q)) ∧ Fr (fun _ => False) w w' := by
 obtain ⟨ht1, ht2, ht3⟩ := ht
 obtain ⟨gg, cc, hv3, hcc, hgl⟩ := row_gg hp (by omega)
 obtain ⟨y, hy⟩ : ∃ y, st[t.q.own]? = some y := ⟨_, List.getElem?_eq_getElem ht1⟩
 have HO : Hid _ := outAt_at hy
 have hou := hwf.ou _ _ hy
 have HY : Hid (st[t.q.own]? = some y) := hy
 have HP : Hid (PlR w st ws) := hp
 have hbp : Blk ((w.alloc (.cells #[ws.v2, ws.v3] 39)).alloc (.cells t.cells.toArray 121)) w.heap.size #[ws.v2, ws.v3] 39 := (Blk.new _ _ _).alloc _
 have hbt : Blk ((w.alloc (.cells #[ws.v2, ws.v3] 39)).alloc (.cells t.cells.toArray 121)) (w.heap.size + 1) t.cells.toArray 121 := Blk.new' _ _ _ _ (by simp)
 have hfw : Fr (fun _ => False) w ((w.alloc (.cells #[ws.v2, ws.v3] 39)).alloc (.cells t.cells.toArray 121)) := by (repeat (first | exact Fr.refl _ _ | assumption | refine Fr.drewNr ?_ _ | refine Fr.drewr ?_ | refine Fr.allocr ?_ _ | refine Fr.setCellr ?_ _ _ (by first | exact Or.inl rfl | (right; simp; done) | (right; simp; omega))))
 have hpw := hp.fr0 hfw
 have hr0 := hpw.r2
 have HV : Hid (ws.v2 = .slice (some ⟨gg, 0, none⟩) st.length cc) := hv3
 rw [hv3] at hr0 hbp hbt hfw hpw ⊢
 obtain ⟨-, -, -, -, y4, -⟩ := st10 hr0 hy
 clear hv3 hp hy hpw hr0
 have q0 : t.cells.toArray[0]? = some (.int .i64 t.q.own) := rfl
 have q5 : t.cells.toArray[5]? = some (.int .i64 t.q.ts) := rfl
 generalize t.cells.toArray = T at *
 go_enter Tryz.func93, Tryz.ntmps93
 go_wp2_with fail
 generalize ((w.alloc (.cells #[.slice (some ⟨gg, 0, none⟩) st.length cc, ws.v3] 39)).alloc (.cells T 121)) = W at *
 have HTS : Hid ((t.q.ts.toNat : Int) = t.q.ts) := Int.toNat_of_nonneg ht2
 go_loopw [5] (fun i wr => ∃ s : Int, ∃ f : Nat, -1 ≤ s ∧ s < st.length ∧ s + 1 ≤ f ∧ i = .int .i64 s ∧ Hid (scF st t.q.ts.toNat (f + 1) s = scOf st t.q) ∧ Fr (fun _ => False) W wr) (fun i _ => (intOf i + 1).toNat)
 case atStart => exact ⟨y.outer, st.length, by omega, by omega, by omega, rfl, by show _ = _; rw [scOf, HO.out], Fr.refl _ _⟩
 case round =>
  obtain ⟨s, f, hs1, hs2, hf, rfl, HS, hfr⟩ := hrel
  have hfo := hfw.thenr hfr (fun _ _ h => h)
  by_cases e : s = -1
  ·have HI : Hid (scOf st t.q = -1) := by show _ = _; rw [← HS.out, scF, if_pos e]
   subst e
   go_wp2_with fail
   go_ret
   exact ⟨ret_i64 HI.out.symm, hfo⟩
  ·obtain ⟨k, rfl⟩ : ∃ k : Nat, s = k := ⟨s.toNat, by omega⟩
   have hks : k < st.length := by omega
   have hpr := HP.out.fr0 hfo
   have hr := hpr.r2
   rw [HV.out] at hr
   obtain ⟨x, hx⟩ : ∃ x, st[k]? = some x := ⟨_, List.getElem?_eq_getElem hks⟩
   obtain ⟨-, -, -, x3, x4, -⟩ := st10 hr hx
   have hbr := Blk.fr hbp hfr (fun h => h)
   have c0 : wr.cell? ⟨w.heap.size, 0, none⟩ = some (.slice (some ⟨gg, 0, none⟩) st.length cc) := by rw [Blk.cell hbr]; rfl
   have c1 : wr.cell? ⟨w.heap.size, 1, none⟩ = some ws.v3 := by rw [Blk.cell hbr]; rfl
   have t5 : wr.cell? ⟨w.heap.size + 1, 5, none⟩ = some (.int .i64 t.q.ts) := by rw [Blk.cell (Blk.fr hbt hfr (fun h => h))]; exact q5
   have HK : Hid _ := kindAt_at hx
   have HU : Hid _ := outAt_at hx
   have hxo := hwf.ou k x hx
   have hkn : (k : Int).toNat = k := by omega
   clear hx hr hbr
   have he1 : ((k : Int) == -1) = false := by rw [beq_eq_false_iff_ne]; omega
   by_cases h1 : x.kind = 1
   ·have h1' : ((x.kind : Int) == 1) = true := by rw [h1]; rfl
    go_wp2_with fail
    have hcall := isBelow_any wr st ws t.q.ts.toNat k hpr hks
    rw [HV.out, HTS.out] at hcall
    refine hcall.mono ?_
    clear hcall
    rintro e' w2 ⟨rfl, hf2⟩
    have hfr2 := hfr.thenr hf2 (fun _ _ h => h)
    have hfo2 := hfw.thenr hfr2 (fun _ _ h => h)
    have d0 : w2.cell? ⟨w.heap.size, 0, none⟩ = some (.slice (some ⟨gg, 0, none⟩) st.length cc) := by rw [Blk.cell (Blk.fr hbp hfr2 (fun h => h))]; rfl
    have hr2 := (HP.out.fr0 hfo2).r2
    rw [HV.out] at hr2
    obtain ⟨x', hx'⟩ : ∃ x, st[k]? = some x := ⟨_, List.getElem?_eq_getElem hks⟩
    obtain ⟨-, -, -, -, z4, -⟩ := st10 hr2 hx'
    have hxx : x'.outer = x.outer := by rw [← outAt_at hx', HU.out]
    rw [hxx] at z4
    clear hx' hr2 hpr
    cases hm : isB st t.q.ts.toNat k with
    | true =>
     have HI : Hid (scOf st t.q = k) := by
      show _ = _; rw [← HS.out, scF, if_neg e, if_pos]; rw [hkn, HK.out, h1, hm]; rfl
     go_wp2_with fail
     go_ret
     exact ⟨ret_i64 HI.out.symm, hfo2⟩
    | false =>
     have HI : Hid (scF st t.q.ts.toNat f x.outer = scOf st t.q) := by
      show _ = _; rw [← HS.out, scF, if_neg e, if_neg (by rw [hkn, hm]; simp), hkn, HU.out]
     go_wp2_with fail
     go_roundw
     case rel => exact ⟨x.outer, f - 1, by omega, by omega, by omega, rfl, by show _ = _; rw [show f - 1 + 1 = f by omega]; exact HI.out, hfr2⟩
     case measure => simp [intOf]; omega
   ·have h1' : ((x.kind : Int) == 1) = false := by rw [beq_eq_false_iff_ne]; omega
    have h1'' : (x.kind == 1) = false := by rw [beq_eq_false_iff_ne]; omega
    have HI : Hid (scF st t.q.ts.toNat f x.outer = scOf st t.q) := by
     show _ = _; rw [← HS.out, scF, if_neg e, if_neg (by rw [hkn, HK.out, h1'']; simp), hkn, HU.out]
    clear hpr
    go_wp2_with fail
    go_roundw
    case rel => exact ⟨x.outer, f - 1, by omega, by omega, by omega, rfl, by show _ = _; rw [show f - 1 + 1 = f by omega]; exact HI.out, hfr⟩
    case measure => simp [intOf]; omega

structure Py where
 act : List Bool
 mm : List (List Bool)
 out : List UInt8
def mmC (mm : List (List Bool)) : List Value := mm.flatMap bV
def pyC (ws : Wp) (p : Py) (vo : Value) : List Value := [ws.v2, ws.v3] ++ (bV p.act ++ (mmC p.mm ++ (vo :: ws.tl)))
structure PyOk (p : Py) : Prop where
 la : p.act.length = 26
 lm : p.mm.length = 26
 le : ∀ m ∈ p.mm, m.length = 26
def byV (l : List UInt8) : List Value := l.map fun c => .int .u8 c.toNat
theorem wpList_newset {ops : Array Oper} {rest : List Oper} {op : Oper} {a : Act} {w : World} {Q : Exit → Act → World → Prop} (hgd : op.guard = none) (x y : Operand) (ho : op.op = .store 78 x y)
  (w0 : World) (b : Nat) (hx : a.eval x = .pointer (some ⟨b, 0, none⟩)) (hy : a.eval y = .agg (#[.bool false, .bool false, .bool false, .bool false, .bool false, .bool false, .bool false, .bool false, .bool false, .bool false, .bool false, .bool false, .bool false, .bool false, .bool false, .bool false, .bool false, .bool false, .bool false, .bool false, .bool false, .bool false, .bool false, .bool false, .bool false, .bool false] : Array Value)) (hw : w = w0.alloc (.cells (#[.bool false, .bool false, .bool false, .bool false, .bool false, .bool false, .bool false, .bool false, .bool false, .bool false, .bool false, .bool false, .bool false, .bool false, .bool false, .bool false, .bool false, .bool false, .bool false, .bool false, .bool false, .bool false, .bool false, .bool false, .bool false, .bool false] : Array Value) 78)) (hb : b = w0.heap.size)
  (h : wpList Tryz.prog ops Q rest (a.put op.dst undef) w) : wpList Tryz.prog ops Q (op :: rest) a w := by
 refine wpList_plain hgd fun K hK => ?_
 unfold Oper.wp execOp
 have hrun := run_storeVar_new (P := Tryz.prog) w0 78 (#[.bool false, .bool false, .bool false, .bool false, .bool false, .bool false, .bool false, .bool false, .bool false, .bool false, .bool false, .bool false, .bool false, .bool false, .bool false, .bool false, .bool false, .bool false, .bool false, .bool false, .bool false, .bool false, .bool false, .bool false, .bool false, .bool false] : Array Value) (#[.bool false, .bool false, .bool false, .bool false, .bool false, .bool false, .bool false, .bool false, .bool false, .bool false, .bool false, .bool false, .bool false, .bool false, .bool false, .bool false, .bool false, .bool false, .bool false, .bool false, .bool false, .bool false, .bool false, .bool false, .bool false, .bool false] : Array Value) (setInfo' (l := noSet) rfl) rfl (one_bV noSet)
 rw [← hb, ← hw] at hrun
 simp only [ho, hx, hy, Instr.storeAt, Instr.sureAddr, Sem.run_bind, Sem.run_pure, Result.andThen_ok, hrun]
 exact hK _ _ h

structure PyV (w : World) (b : Nat) (st : List StP) (ws : Wp) (p : Py) (vo : Value) : Prop where
 blk : Blk w b (pyC ws p vo).toArray ws.ty
 pl : PlR w st ws
 ro : w.ownsRow (b + 1) 5 1 vo p.out.length (byV p.out)
 np : ∀ k, OwnP ws k → k < b
 ok : PyOk p
theorem row_frB {w w' : World} {S : Nat → Prop} {B : Nat} {e : TypeId} {sz : Nat} {v : Value} {n : Nat} {xs : List Value} (h : w.ownsRow B e sz v n xs) (f : Fr S w w') (hn : ∀ k, v.ownBlock = some k → ¬ S k) : w'.ownsRow B e sz v n xs := by
 refine ⟨h.1, ?_⟩
 rcases h.2 with hn' | ⟨g, cap, cur, rfl, hb, hg, rest⟩
 ·exact .inl hn'
 ·exact .inr ⟨g, cap, cur, rfl, hb, (f.block g (Array.getElem?_eq_some_iff.1 hg).1 (hn g rfl)).trans hg, rest⟩
def OwnY (b : Nat) (vo : Value) (k : Nat) : Prop := k = b ∨ vo.ownBlock = some k
theorem PyV.fr {w w' : World} {b : Nat} {st : List StP} {ws : Wp} {p : Py} {vo : Value} {S : Nat → Prop} (h : PyV w b st ws p vo) (f : Fr S w w') (hS : ∀ k, OwnY b vo k ∨ OwnP ws k → ¬ S k) : PyV w' b st ws p vo where
 blk := Blk.fr h.blk f (hS b (Or.inl (Or.inl rfl)))
 pl := h.pl.fr f (fun k hk => hS k (Or.inr hk))
 ro := row_frB h.ro f (fun k hk => hS k (Or.inl (Or.inr hk)))
 np := h.np
 ok := h.ok
theorem PyV.fr0 {w w' : World} {b : Nat} {st : List StP} {ws : Wp} {p : Py} {vo : Value} (h : PyV w b st ws p vo) (f : Fr (fun _ => False) w w') : PyV w' b st ws p vo := h.fr f (fun _ _ h => h)

theorem mmC_get : ∀ (mm : List (List Bool)) (i j : Nat) (m : List Bool), (∀ m ∈ mm, m.length = 26) → mm[i]? = some m → j < 26 → (mmC mm)[i * 26 + j]? = (bV m)[j]?
 | [], i, j, m, _, h, _ => by simp at h
 | a :: r, 0, j, m, hl, h, hj => by
  simp at h; subst h
  have : a.length = 26 := hl a (by simp)
  simp only [mmC, List.flatMap_cons]
  rw [List.getElem?_append_left (by rw [bV_len]; omega)]; simp
 | a :: r, i + 1, j, m, hl, h, hj => by
  have : a.length = 26 := hl a (by simp)
  simp only [mmC, List.flatMap_cons]
  rw [List.getElem?_append_right (by rw [bV_len]; omega), bV_len, this, show (i + 1) * 26 + j - 26 = i * 26 + j by omega]
  exact mmC_get r i j m (fun m hm => hl m (by simp [hm])) (by simpa using h) hj
theorem mmC_len : ∀ (mm : List (List Bool)), (∀ m ∈ mm, m.length = 26) → (mmC mm).length = mm.length * 26
 | [], _ => rfl
 | a :: r, h => by
  have h1 : a.length = 26 := h a (by simp)
  have h2 := mmC_len r (fun m hm => h m (by simp [hm]))
  simp only [mmC, List.flatMap_cons, List.length_append, bV_len, List.length_cons] at *
  omega

section
variable {w : World} {b : Nat} {st : List StP} {ws : Wp} {p : Py} {vo : Value}
theorem PyV.c0 (h : PyV w b st ws p vo) : w.cell? ⟨b, 0, none⟩ = some ws.v2 := by rw [Blk.cell h.blk]; rfl
theorem PyV.c1 (h : PyV w b st ws p vo) : w.cell? ⟨b, 1, none⟩ = some ws.v3 := by rw [Blk.cell h.blk]; rfl
theorem pyC_act (ho : PyOk p) (k : Nat) (hk : k < 26) : (pyC ws p vo)[2 + k]? = some (.bool (mem p.act k)) := by
 rw [pyC, List.getElem?_append_right (by simp), List.getElem?_append_left (by simp [bV, ho.la]; omega)]
 simp [bV, mem, ho.la, hk]
theorem PyV.ca (h : PyV w b st ws p vo) (k : Nat) (hk : k < 26) : w.cell? ⟨b, 2 + k, none⟩ = some (.bool (mem p.act k)) := by
 rw [Blk.cell h.blk]; simpa using pyC_act h.ok k hk
theorem PyV.fz (h : PyV w b st ws p vo) (o : Nat) : w.frozen? ⟨b, o, none⟩ = false := Blk.frozen h.blk o
theorem pyC_len (ho : PyOk p) : (pyC ws p vo).length = 705 + ws.tl.length := by
 simp [pyC, bV_len, mmC_len p.mm ho.le, ho.la, ho.lm]
 omega
theorem PyV.co (h : PyV w b st ws p vo) : w.cell? ⟨b, 704, none⟩ = some vo := by
 rw [Blk.cell h.blk]
 have : (pyC ws p vo)[704]? = some vo := by
  rw [pyC, List.getElem?_append_right (by simp), List.getElem?_append_right (by simp [bV_len, h.ok.la]), List.getElem?_append_right (by simp [bV_len, h.ok.la, mmC_len p.mm h.ok.le, h.ok.lm])]
  simp [bV_len, h.ok.la, mmC_len p.mm h.ok.le, h.ok.lm]
 simpa using this
theorem PyV.ra (h : PyV w b st ws p vo) : w.rangeAt b 2 (bV p.act) := fun j v hv => by
 have hj : j < 26 := by have := (List.getElem?_eq_some_iff.1 hv).1; rw [bV_len, h.ok.la] at this; exact this
 rw [h.ca j hj, ← hv]
 simp [bV, mem, h.ok.la, hj]
theorem PyV.rm (h : PyV w b st ws p vo) {i : Nat} {m : List Bool} (hm : p.mm[i]? = some m) : w.rangeAt b (28 + i * 26) (bV m) := fun j v hv => by
 have hl : m.length = 26 := h.ok.le m (List.mem_of_getElem? hm)
 have hj : j < 26 := by have := (List.getElem?_eq_some_iff.1 hv).1; rw [bV_len, hl] at this; exact this
 have hi : i < 26 := by have := (List.getElem?_eq_some_iff.1 hm).1; rw [h.ok.lm] at this; exact this
 rw [Blk.cell h.blk, ← hv]
 rw [List.getElem?_toArray, pyC, List.getElem?_append_right (by simp; omega), List.getElem?_append_right (by simp [bV_len, h.ok.la]; omega), List.getElem?_append_left (by simp [bV_len, h.ok.la, mmC_len p.mm h.ok.le, h.ok.lm]; omega)]
 rw [← mmC_get p.mm i j m h.ok.le hm hj]
 congr 1
 simp [bV_len, h.ok.la]
 omega
end


def belK (act : List Bool) (o k : Nat) : List Bool := (List.range 26).map fun i => decide (o < i) && decide (i < k) && mem act i
def actB (st : List StP) (act : List Bool) (o : Nat) : List Bool := belK act o (endAt st o)
theorem belK_len (act : List Bool) (o k : Nat) : (belK act o k).length = 26 := by simp [belK]
theorem belK_0 (act : List Bool) (o : Nat) : belK act o (o + 1) = noSet := by
 apply List.ext_getElem?; intro i
 by_cases h : i < 26
 ·simp only [belK, noSet, List.getElem?_map, List.getElem?_range h, Option.map_some]
  rw [List.getElem?_replicate, if_pos h]
  congr 1
  by_cases h1 : o < i
  ·have : ¬ i < o + 1 := by omega
   simp [this]
  ·simp [h1]
 ·rw [List.getElem?_eq_none (by simp [belK]; omega), List.getElem?_eq_none (by simp [noSet]; omega)]
theorem belK_set (act : List Bool) (o k : Nat) (hk : k < 26) (ho : o < k) : (bV (belK act o k)).toArray.setIfInBounds k (.bool (mem act k)) = (bV (belK act o (k + 1))).toArray := by
 apply Array.ext_getElem?
 intro i
 rw [Array.getElem?_setIfInBounds]
 by_cases hi : i < 26
 ·by_cases e : k = i
  ·subst e; simp [bV, belK, hk, ho]
  ·simp only [e, if_false]
   simp only [bV, belK, List.getElem?_toArray, List.getElem?_map, List.map_map, List.getElem?_range hi, Option.map_some, Function.comp]
   by_cases h2 : i < k
   ·simp [h2, Nat.lt_succ_of_lt h2]
   ·have : ¬ i < k + 1 := by omega
    simp [h2, this]
 ·have e : ¬ k = i := by omega
  simp only [e, if_false]
  rw [Array.getElem?_eq_none (by simp [bV, belK]; omega), Array.getElem?_eq_none (by simp [bV, belK]; omega)]

set_option maxRecDepth 100000 in
set_option maxHeartbeats 1000000 in
theorem activeBelow_any (w : World) (b : Nat) (st : List StP) (ws : Wp) (p : Py) (vo : Value) (o : Nat) (hwf : Wf st) (hp : PyV w b st ws p vo) (hs : o < st.length) :
  Calls Tryz.prog 102 #[.pointer (some ⟨b, 0, none⟩), .int .i64 o] w fun e w' => e = .returned (setV (actB st p.act o)) ∧ Fr (fun _ => False) w w' := by
 obtain ⟨gg, cc, hv3, hcc, hgl⟩ := row_gg hp.pl (by omega)
 obtain ⟨y, hy⟩ : ∃ y, st[o]? = some y := ⟨_, List.getElem?_eq_getElem hs⟩
 have hen := hwf.en o y hy
 have hlen := hwf.len
 have HY : Hid (st[o]? = some y) := hy
 have HE : Hid _ := endAt_at hy
 have HP : Hid (PyV w b st ws p vo) := hp
 have HV : Hid (ws.v2 = .slice (some ⟨gg, 0, none⟩) st.length cc) := hv3
 have hbl := Blk.lt hp.blk
 clear hv3 hp hy
 go_enter Tryz.func102, Tryz.ntmps102
 go_wp2_with (refine wpList_newset rfl _ _ rfl _ _ rfl rfl rfl (by simp; done) ?_)
 show Code.wp _ _ _ _ ((w.alloc (.cells (bV noSet).toArray 78)).alloc (.cells (bV noSet).toArray 78))
 have b1 : Blk ((w.alloc (.cells (bV noSet).toArray 78)).alloc (.cells (bV noSet).toArray 78)) w.heap.size (bV noSet).toArray 78 := (Blk.new _ _ _).alloc _
 have b2 : Blk ((w.alloc (.cells (bV noSet).toArray 78)).alloc (.cells (bV noSet).toArray 78)) (w.heap.size + 1) (bV noSet).toArray 78 := Blk.new' _ _ _ _ (by simp)
 have hfw : Fr (fun _ => False) w ((w.alloc (.cells (bV noSet).toArray 78)).alloc (.cells (bV noSet).toArray 78)) := by (repeat (first | exact Fr.refl _ _ | assumption | refine Fr.drewNr ?_ _ | refine Fr.drewr ?_ | refine Fr.allocr ?_ _ | refine Fr.setCellr ?_ _ _ (by first | exact Or.inl rfl | (right; simp; done) | (right; simp; omega))))
 have HZ : Hid _ := belK_0 p.act o
 generalize ((w.alloc (.cells (bV noSet).toArray 78)).alloc (.cells (bV noSet).toArray 78)) = W at *
 go_loopw [6] (fun i wr => ∃ k : Nat, o < k ∧ k ≤ y.end_ ∧ i = .int .i64 k ∧ Blk wr (w.heap.size + 1) (bV (belK p.act o k)).toArray 78 ∧ Fr (· = w.heap.size + 1) W wr) (fun i _ => y.end_ - (intOf i).toNat)
 case atStart => exact ⟨o + 1, by omega, by omega, by go_num, by rw [HZ.out]; exact b2, Fr.refl _ _⟩
 case round =>
  obtain ⟨k, hok, hk, rfl, hbk, hfr⟩ := hrel
  have hfo : Fr (fun _ => False) w wr := hfw.trans hfr (fun _ _ h => h) (fun i hi e => by omega)
  have hpr := HP.out.fr0 hfo
  have hr := hpr.pl.r2
  rw [HV.out] at hr
  obtain ⟨-, -, -, -, -, y5, -⟩ := st10 hr HY.out
  have c0 := hpr.c0
  rw [HV.out] at c0
  by_cases hlt : (k : Int) < y.end_
  ·have ca := hpr.ca k (by omega)
   have z1 := Blk.frozen hbk k
   have f1 : ∃ v, wr.cell? ⟨w.heap.size + 1, k, none⟩ = some v := ⟨_, mem_cell hbk (by rw [belK_len]; omega)⟩
   obtain ⟨v, f1⟩ := f1
   have HX : Hid (Blk (wr.setCell ⟨w.heap.size + 1, k, none⟩ (.bool (mem p.act k))) (w.heap.size + 1) (bV (belK p.act o (k + 1))).toArray 78) := by
    show Blk _ _ _ _; rw [← belK_set p.act o k (by omega) hok]; exact Blk.set hbk k _
   clear hr hpr
   go_wp2_with fail
   go_roundw
   case rel => exact ⟨k + 1, by omega, by omega, by go_num, HX.out, hfr.setCellr _ _ (Or.inl rfl)⟩
   case measure => simp [intOf]; omega
  ·have hke : k = y.end_ := by omega
   have HA : Hid (belK p.act o k = actB st p.act o) := by show _ = _; rw [actB, HE.out, hke]
   rw [HA.out] at hbk
   have hal : (actB st p.act o).length = 26 := belK_len _ _ _
   obtain ⟨m, hm⟩ : ∃ m, actB st p.act o = m := ⟨_, rfl⟩
   have HM : Hid _ := hm
   rw [hm] at hbk hal
   clear hm HA
   have hb3 := Blk.fr b1 hfr (by omega)
   have hra := rangeB hbk
   have hin := setInfo hal
   have hin' := setInfo' hal
   have hone := one_bV m
   have hth : wr.there w.heap.size 0 (bV m).toArray.size := there_of hb3 0 (by simp [bV, noSet, hal])
   clear hr hpr
   go_wp2_with (first | (refine wpList_load_mid rfl 78 _ rfl _ _ rfl _ _ (by assumption) Tryz.underlying78 rfl (by assumption) ?_) | (refine wpList_store_mid rfl 78 _ _ rfl _ _ _ rfl rfl (by assumption) (by assumption) (by assumption) ?_))
   have hbz : Blk (wr.setCells w.heap.size 0 (bV m)) w.heap.size (bV m).toArray 78 := by
    rw [← setsA_all (bV noSet).toArray (bV m) (by simp [bV, noSet, hal])]; exact Blk.sets _ 0 hb3
   refine bodyPost_ret (v := setV m) (ret_setC rfl rfl hbz hal) rfl ⟨by rw [HM.out], ?_⟩
   exact Fr.setsr (Or.inr (by omega)) _ 0 hfo
end Go.Proofs.YtmolmbeeoecnfaaGreatDoor
