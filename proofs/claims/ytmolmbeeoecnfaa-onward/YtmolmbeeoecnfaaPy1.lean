/- Own work: walks of the program's plan, read while it is played: isBelow, innerTowards, innerAmong, scope; sets. -/
import Derived.Test.YtmolmbeeoecnfaaUn
namespace Go.Proofs.Ytmolmbeeoecnfaa
open Go.RowKit Go.BigFrame
set_option linter.unusedVariables false
set_option linter.unusedSimpArgs false

/-- A plan's rows in memory, to be read alone. -/
structure PlR (w : World) (st : List StP) (ws : Ws) : Prop where
  r2 : w.ownsRow 0 126 10 ws.v2 st.length (st.flatMap StP.cells)
  r3 : w.ownsRow 0 123 9 ws.v3 ws.th.length (ws.th.flatMap TrH.cells)
  rc : ∀ t ∈ ws.th, w.ownsRow 0 153 4 t.cv t.q.conds.length (t.q.conds.flatMap CdP.cells)
def OwnP (ws : Ws) (k : Nat) : Prop := ws.v2.ownBlock = some k ∨ ws.v3.ownBlock = some k ∨ ∃ t ∈ ws.th, t.cv.ownBlock = some k
theorem PlR.fr {w w' : World} {st : List StP} {ws : Ws} {S : Nat → Prop} (h : PlR w st ws) (f : Fr S w w') (hS : ∀ k, OwnP ws k → ¬ S k) : PlR w' st ws where
  r2 := row_fr h.r2 f (fun k hk => hS k (Or.inl hk))
  r3 := row_fr h.r3 f (fun k hk => hS k (Or.inr (Or.inl hk)))
  rc := fun t ht => row_fr (h.rc t ht) f (fun k hk => hS k (Or.inr (Or.inr ⟨t, ht, hk⟩)))
theorem PlR.fr0 {w w' : World} {st : List StP} {ws : Ws} (h : PlR w st ws) (f : Fr (fun _ => False) w w') : PlR w' st ws := h.fr f (fun _ _ h => h)
theorem PlV.toR {w : World} {b : Nat} {st : List StP} {ws : Ws} (h : PlV w b st ws) : PlR w st ws := ⟨h.r2, h.r3, h.rc⟩

def endAt (st : List StP) (k : Nat) : Nat := match st[k]? with | some x => x.end_ | none => 0
def outAt (st : List StP) (k : Nat) : Int := match st[k]? with | some x => x.outer | none => -1
def kindAt (st : List StP) (k : Nat) : Nat := match st[k]? with | some x => x.kind | none => 0
theorem endAt_at {st : List StP} {k : Nat} {x : StP} (h : st[k]? = some x) : endAt st k = x.end_ := by simp [endAt, h]
theorem outAt_at {st : List StP} {k : Nat} {x : StP} (h : st[k]? = some x) : outAt st k = x.outer := by simp [outAt, h]
theorem kindAt_at {st : List StP} {k : Nat} {x : StP} (h : st[k]? = some x) : kindAt st k = x.kind := by simp [kindAt, h]

def isB (st : List StP) (s o : Nat) : Bool := decide (o < s) && decide (s < endAt st o)

set_option maxRecDepth 100000 in
set_option maxHeartbeats 1000000 in
theorem isBelow_any (w : World) (st : List StP) (ws : Ws) (s o : Nat) (hp : PlR w st ws) (ho : o < st.length) :
    Calls Try.prog 101 #[.agg #[ws.v2, ws.v3], .int .i64 s, .int .i64 o] w fun e w' => e = .returned (.bool (isB st s o)) ∧ Fr (fun _ => False) w w' := by
  obtain ⟨gg, cc, hv3, hcc⟩ := row_form hp.r2 (by omega)
  obtain ⟨x, hx⟩ : ∃ x, st[o]? = some x := ⟨_, List.getElem?_eq_getElem ho⟩
  have hr := row_fr hp.r2 (Fr.alloc (fun _ => False) w (.cells #[ws.v2, ws.v3] 69)) (fun _ _ h => h)
  rw [hv3] at hr ⊢
  obtain ⟨x0, x1, x2, x3, x4, x5, x6, x7, x8, x9⟩ := st10 hr hx
  have HE : Hid _ := endAt_at hx
  clear hx hr hv3
  by_cases h1 : o < s
  · by_cases h2 : (s : Int) < x.end_
    · have HB : Hid (isB st s o = true) := by show _ = _; simp only [isB, HE.out]; simp [h1]; omega
      go_enter Try.func101, Try.ntmps101
      go_wp2_with fail
      go_ret
      rw [HB.out]
      exact ⟨rfl, by (repeat (first | exact Fr.refl _ _ | assumption | refine Fr.drewNr ?_ _ | refine Fr.drewr ?_ | refine Fr.allocr ?_ _ | refine Fr.setCellr ?_ _ _ (by first | exact Or.inl rfl | (right; simp; done) | (right; simp; omega))))⟩
    · have HB : Hid (isB st s o = false) := by show _ = _; simp only [isB, HE.out]; simp [h1]; omega
      go_enter Try.func101, Try.ntmps101
      go_wp2_with fail
      go_ret
      rw [HB.out]
      exact ⟨rfl, by (repeat (first | exact Fr.refl _ _ | assumption | refine Fr.drewNr ?_ _ | refine Fr.drewr ?_ | refine Fr.allocr ?_ _ | refine Fr.setCellr ?_ _ _ (by first | exact Or.inl rfl | (right; simp; done) | (right; simp; omega))))⟩
  · have HB : Hid (isB st s o = false) := by show _ = _; simp only [isB]; simp [h1]
    go_enter Try.func101, Try.ntmps101
    go_wp2_with fail
    go_ret
    rw [HB.out]
    exact ⟨rfl, by (repeat (first | exact Fr.refl _ _ | assumption | refine Fr.drewNr ?_ _ | refine Fr.drewr ?_ | refine Fr.allocr ?_ _ | refine Fr.setCellr ?_ _ _ (by first | exact Or.inl rfl | (right; simp; done) | (right; simp; omega))))⟩

/-- A set's value. -/
def bV (l : List Bool) : List Value := l.map .bool
def setV (l : List Bool) : Value := .agg (bV l).toArray

theorem row_gg {w : World} {st : List StP} {ws : Ws} (hp : PlR w st ws) (hs : 0 < st.length) : ∃ gg cc, ws.v2 = .slice (some ⟨gg, 0, none⟩) st.length cc ∧ st.length ≤ cc ∧ gg < w.heap.size := by
  obtain ⟨gg, cc, hv, hc⟩ := row_form hp.r2 hs
  exact ⟨gg, cc, hv, hc, (hp.r2.lt gg (by rw [hv]; rfl)).2⟩

/-- A plan whose numbers fit together. -/
structure Wf (st : List StP) : Prop where
  len : st.length ≤ 26
  en : ∀ (k : Nat) (x : StP), st[k]? = some x → k < x.end_ ∧ x.end_ ≤ st.length
  ou : ∀ (k : Nat) (x : StP), st[k]? = some x → -1 ≤ x.outer ∧ x.outer < k
  inn : ∀ (k : Nat) (x : StP), st[k]? = some x → x.kind ≠ 0 → k + 1 < x.end_

def mem (l : List Bool) (k : Nat) : Bool := match l[k]? with | some v => v | none => false
theorem mem_cell {w : World} {q : Nat} {l : List Bool} {k : Nat} {t : TypeId} (h : Blk w q (bV l).toArray t) (hk : k < l.length) : w.cell? ⟨q, k, none⟩ = some (.bool (mem l k)) := by
  rw [Blk.cell h]
  simp [bV, mem, hk]

def inA (st : List StP) (s : Nat) (l : List Bool) (k : Nat) : Bool := decide (s < k) && (outAt st k == (s : Int) && mem l k)
def inAm (st : List StP) (s : Nat) (l : List Bool) : Nat := match firstB (inA st s l) (endAt st s) with | some k => k | none => s + 1

set_option maxRecDepth 100000 in
set_option maxHeartbeats 1000000 in
theorem innerAmong_any (w : World) (st : List StP) (ws : Ws) (s : Nat) (l : List Bool) (hwf : Wf st) (hp : PlR w st ws) (hs : s < st.length) (hl : l.length = 26) :
    Calls Try.prog 100 #[.agg #[ws.v2, ws.v3], .int .i64 s, setV l] w fun e w' => e = .returned (.int .i64 (inAm st s l)) ∧ Fr (fun _ => False) w w' := by
  obtain ⟨gg, cc, hv3, hcc, hgl⟩ := row_gg hp (by omega)
  obtain ⟨y, hy⟩ : ∃ y, st[s]? = some y := ⟨_, List.getElem?_eq_getElem hs⟩
  have hen := hwf.en s y hy
  have hlen := hwf.len
  have HY : Hid (st[s]? = some y) := hy
  have HE : Hid _ := endAt_at hy
  have HP : Hid (PlR w st ws) := hp
  have HL : Hid (l.length = 26) := hl
  unfold setV
  have hbl : Blk ((w.alloc (.cells #[ws.v2, ws.v3] 69)).alloc (.cells (bV l).toArray 73)) (w.heap.size + 1) (bV l).toArray 73 := Blk.new' _ _ _ _ (by simp)
  have hbp : Blk ((w.alloc (.cells #[ws.v2, ws.v3] 69)).alloc (.cells (bV l).toArray 73)) w.heap.size #[ws.v2, ws.v3] 69 := (Blk.new _ _ _).alloc _
  have hfw : Fr (fun _ => False) w ((w.alloc (.cells #[ws.v2, ws.v3] 69)).alloc (.cells (bV l).toArray 73)) := by (repeat (first | exact Fr.refl _ _ | assumption | refine Fr.drewNr ?_ _ | refine Fr.drewr ?_ | refine Fr.allocr ?_ _ | refine Fr.setCellr ?_ _ _ (by first | exact Or.inl rfl | (right; simp; done) | (right; simp; omega))))
  have HV : Hid (ws.v2 = .slice (some ⟨gg, 0, none⟩) st.length cc) := hv3
  rw [hv3] at hbl hbp hfw ⊢
  clear hv3 hp hy hl
  generalize hA : (bV l).toArray = A at *
  have HA : Hid _ := hA
  clear hA
  go_enter Try.func100, Try.ntmps100
  go_wp2_with fail
  generalize ((w.alloc (.cells #[.slice (some ⟨gg, 0, none⟩) st.length cc, ws.v3] 69)).alloc (.cells A 73)) = W at *
  go_loopw [7] (fun i wr => ∃ k : Nat, s < k ∧ k ≤ y.end_ ∧ i = .int .i64 k ∧ Hid (∀ j, j < k → inA st s l j = false) ∧ Fr (fun _ => False) W wr) (fun i _ => y.end_ - (intOf i).toNat)
  case atStart => exact ⟨s + 1, by omega, by omega, by go_num, fun j hj => by simp [inA]; omega, Fr.refl _ _⟩
  case round =>
    obtain ⟨k, hsk, hk, rfl, HJ, hfr⟩ := hrel
    have hpr := HP.out.fr0 (hfw.thenr hfr (fun _ _ h => h))
    have hr := hpr.r2
    rw [HV.out] at hr
    obtain ⟨-, -, -, -, -, y5, -⟩ := st10 hr HY.out
    have c0 : wr.cell? ⟨w.heap.size, 0, none⟩ = some (.slice (some ⟨gg, 0, none⟩) st.length cc) := by rw [Blk.cell (Blk.fr hbp hfr (fun h => h))]; rfl
    have hbr := Blk.fr hbl hfr (fun h => h)
    by_cases hlt : (k : Int) < y.end_
    · have hlt' : k < st.length := by omega
      obtain ⟨x, hx⟩ : ∃ x, st[k]? = some x := ⟨_, List.getElem?_eq_getElem hlt'⟩
      obtain ⟨-, -, -, -, x4, -⟩ := st10 hr hx
      have HO : Hid _ := outAt_at hx
      have m0 : wr.cell? ⟨w.heap.size + 1, k, none⟩ = some (.bool (mem l k)) := by
        rw [← HA.out] at hbr; exact mem_cell hbr (by rw [HL.out]; omega)
      clear hx hr hpr hbr
      by_cases e : x.outer = s
      · cases hm : mem l k with
        | true =>
          rw [hm] at m0
          have HI : Hid (inAm st s l = k) := by
            show _ = _
            rw [inAm, firstB_some (inA st s l) k (by simp [inA, HO.out, hm, e, hsk]) HJ.out _ (by rw [HE.out]; omega)]
          go_wp2_with fail
          go_ret
          exact ⟨ret_i64 (by rw [HI.out]), (hfw.thenr hfr (fun _ _ h => h))⟩
        | false =>
          rw [hm] at m0
          go_wp2_with fail
          go_roundw
          case rel => exact ⟨k + 1, by omega, by omega, by go_num, below_step HJ.out (by simp [inA, hm]), hfr⟩
          case measure => simp [intOf]; omega
      · have he : (x.outer == (s : Int)) = false := by simpa using e
        go_wp2_with fail
        go_roundw
        case rel => exact ⟨k + 1, by omega, by omega, by go_num, below_step HJ.out (by simp [inA, HO.out, he]), hfr⟩
        case measure => simp [intOf]; omega
    · have HI : Hid (inAm st s l = s + 1) := by
        show _ = _
        rw [inAm, firstB_none (inA st s l) _ (fun j hj => HJ.out j (by rw [HE.out] at hj; omega))]
      go_wp2_with fail
      go_ret
      exact ⟨ret_i64 (by rw [HI.out]; rfl), (hfw.thenr hfr (fun _ _ h => h))⟩

def inT (st : List StP) (s t k : Nat) : Bool := decide (s < k) && (outAt st k == (s : Int) && (k == t || isB st t k))
def inTo (st : List StP) (s t : Nat) : Nat := match firstB (inT st s t) (endAt st s) with | some k => k | none => s + 1

set_option maxRecDepth 100000 in
set_option maxHeartbeats 1000000 in
theorem innerTowards_any (w : World) (st : List StP) (ws : Ws) (s t : Nat) (hwf : Wf st) (hp : PlR w st ws) (hs : s < st.length) :
    Calls Try.prog 81 #[.agg #[ws.v2, ws.v3], .int .i64 s, .int .i64 t] w fun e w' => e = .returned (.int .i64 (inTo st s t)) ∧ Fr (fun _ => False) w w' := by
  obtain ⟨gg, cc, hv3, hcc, hgl⟩ := row_gg hp (by omega)
  obtain ⟨y, hy⟩ : ∃ y, st[s]? = some y := ⟨_, List.getElem?_eq_getElem hs⟩
  have hen := hwf.en s y hy
  have hlen := hwf.len
  have HY : Hid (st[s]? = some y) := hy
  have HE : Hid _ := endAt_at hy
  have HP : Hid (PlR w st ws) := hp
  have hbp : Blk (w.alloc (.cells #[ws.v2, ws.v3] 69)) w.heap.size #[ws.v2, ws.v3] 69 := (Blk.new _ _ _)
  have hfw : Fr (fun _ => False) w (w.alloc (.cells #[ws.v2, ws.v3] 69)) := by (repeat (first | exact Fr.refl _ _ | assumption | refine Fr.drewNr ?_ _ | refine Fr.drewr ?_ | refine Fr.allocr ?_ _ | refine Fr.setCellr ?_ _ _ (by first | exact Or.inl rfl | (right; simp; done) | (right; simp; omega))))
  have HV : Hid (ws.v2 = .slice (some ⟨gg, 0, none⟩) st.length cc) := hv3
  rw [hv3] at hbp hfw ⊢
  clear hv3 hp hy
  go_enter Try.func81, Try.ntmps81
  go_wp2_with fail
  generalize (w.alloc (.cells #[.slice (some ⟨gg, 0, none⟩) st.length cc, ws.v3] 69)) = W at *
  go_loopw [7] (fun i wr => ∃ k : Nat, s < k ∧ k ≤ y.end_ ∧ i = .int .i64 k ∧ Hid (∀ j, j < k → inT st s t j = false) ∧ Fr (fun _ => False) W wr) (fun i _ => y.end_ - (intOf i).toNat)
  case atStart => exact ⟨s + 1, by omega, by omega, by go_num, fun j hj => by simp [inT]; omega, Fr.refl _ _⟩
  case round =>
    obtain ⟨k, hsk, hk, rfl, HJ, hfr⟩ := hrel
    have hpr := HP.out.fr0 (hfw.thenr hfr (fun _ _ h => h))
    have hr := hpr.r2
    rw [HV.out] at hr
    obtain ⟨-, -, -, -, -, y5, -⟩ := st10 hr HY.out
    have hbr := Blk.fr hbp hfr (fun h => h)
    have c0 : wr.cell? ⟨w.heap.size, 0, none⟩ = some (.slice (some ⟨gg, 0, none⟩) st.length cc) := by rw [Blk.cell hbr]; rfl
    have c1 : wr.cell? ⟨w.heap.size, 1, none⟩ = some ws.v3 := by rw [Blk.cell hbr]; rfl
    by_cases hlt : (k : Int) < y.end_
    · have hlt' : k < st.length := by omega
      obtain ⟨x, hx⟩ : ∃ x, st[k]? = some x := ⟨_, List.getElem?_eq_getElem hlt'⟩
      obtain ⟨-, -, -, -, x4, -⟩ := st10 hr hx
      have HO : Hid _ := outAt_at hx
      clear hx hr hbr
      by_cases e : x.outer = s
      · have hfo := hfw.thenr hfr (fun _ _ h => h)
        by_cases e2 : k = t
        · have HI : Hid (inTo st s t = k) := by
            show _ = _
            rw [inTo, firstB_some (inT st s t) k (by rw [← e2]; simp [inT, HO.out, e, hsk]) HJ.out _ (by rw [HE.out]; omega)]
          clear hpr
          subst e2
          go_wp2_with fail
          go_ret
          exact ⟨ret_i64 (by rw [HI.out]), hfo⟩
        · have e2' : ((k : Int) == t) = false := by simp; omega
          go_wp2_with fail
          have hcall := isBelow_any wr st ws t k hpr hlt'
          rw [HV.out] at hcall
          refine hcall.mono ?_
          clear hcall hpr
          rintro e' w2 ⟨rfl, hf2⟩
          have hfr2 := hfr.thenr hf2 (fun _ _ h => h)
          have hfo2 := hfw.thenr hfr2 (fun _ _ h => h)
          cases hm : isB st t k with
          | true =>
            have HI : Hid (inTo st s t = k) := by
              show _ = _
              rw [inTo, firstB_some (inT st s t) k (by simp [inT, HO.out, e, hsk, hm]) HJ.out _ (by rw [HE.out]; omega)]
            go_wp2_with fail
            go_ret
            exact ⟨ret_i64 (by rw [HI.out]), hfo2⟩
          | false =>
            go_wp2_with fail
            go_roundw
            case rel => exact ⟨k + 1, by omega, by omega, by go_num, below_step HJ.out (by simp [inT, hm, e2]), hfr2⟩
            case measure => simp [intOf]; omega
      · have he : (x.outer == (s : Int)) = false := by simpa using e
        clear hpr
        go_wp2_with fail
        go_roundw
        case rel => exact ⟨k + 1, by omega, by omega, by go_num, below_step HJ.out (by simp [inT, HO.out, he]), hfr⟩
        case measure => simp [intOf]; omega
    · have HI : Hid (inTo st s t = s + 1) := by
        show _ = _
        rw [inTo, firstB_none (inT st s t) _ (fun j hj => HJ.out j (by rw [HE.out] at hj; omega))]
      clear hpr
      go_wp2_with fail
      go_ret
      exact ⟨ret_i64 (by rw [HI.out]; rfl), (hfw.thenr hfr (fun _ _ h => h))⟩
end Go.Proofs.Ytmolmbeeoecnfaa
