/- Own work: PlA. -/
import Derived.Test.YtmolmbeeoecnfaaGreatDoorF03
import Derived.Test.YtmolmbeeoecnfaaGreatDoorF01
import Derived.Deep.LoopGhost
/- Own work: walks of the program's plan: numberOf, firstTooDeep, firstTwice. -/
namespace Go.Proofs.YtmolmbeeoecnfaaGreatDoor
open Go.RowKit Go.BigFrame
set_option linter.unusedVariables false
set_option linter.unusedSimpArgs false

structure PlV (w : World) (b : Nat) (st : List StP) (ws : Ws) : Prop where
 blk : Blk w b #[ws.v2, ws.v3] 39
 r2 : w.ownsRow 0 115 10 ws.v2 st.length (st.flatMap StP.cells)
 r3 : w.ownsRow 0 121 9 ws.v3 ws.th.length (ws.th.flatMap TrH.cells)
 rc : ∀ t ∈ ws.th, w.ownsRow 0 123 4 t.cv t.q.conds.length (t.q.conds.flatMap CdP.cells)
 n2 : ws.v2.ownBlock ≠ some b
 n3 : ws.v3.ownBlock ≠ some b
 d23 : Ap ws.v2 ws.v3
 nc : ∀ t ∈ ws.th, t.cv.ownBlock ≠ some b ∧ Ap t.cv ws.v2 ∧ Ap t.cv ws.v3
 pw : ws.th.Pairwise fun t u => Ap t.cv u.cv

theorem PlV.fr {w w' : World} {b : Nat} {st : List StP} {ws : Ws} {S : Nat → Prop} (h : PlV w b st ws) (f : Fr S w w') (hS : ∀ k, OwnR b ws k → ¬ S k) : PlV w' b st ws where
 blk := Blk.fr h.blk f (hS b (Or.inl rfl))
 r2 := row_fr h.r2 f (fun k hk => hS k (Or.inr (Or.inl hk)))
 r3 := row_fr h.r3 f (fun k hk => hS k (Or.inr (Or.inr (Or.inl hk))))
 rc := fun t ht => row_fr (h.rc t ht) f (fun k hk => hS k (Or.inr (Or.inr (Or.inr ⟨t, ht, hk⟩))))
 n2 := h.n2
 n3 := h.n3
 d23 := h.d23
 nc := h.nc
 pw := h.pw
theorem PlV.fr0 {w w' : World} {b : Nat} {st : List StP} {ws : Ws} (h : PlV w b st ws) (f : Fr (fun _ => False) w w') : PlV w' b st ws := h.fr f (fun _ _ h => h)

theorem PlV.cells {w : World} {b : Nat} {st : List StP} {ws : Ws} (h : PlV w b st ws) : w.cell? ⟨b, 0, none⟩ = some ws.v2 ∧ w.cell? ⟨b, 1, none⟩ = some ws.v3 ∧ ∀ o, w.frozen? ⟨b, o, none⟩ = false := by
 refine ⟨?_, ?_, Blk.frozen h.blk⟩ <;> (rw [Blk.cell h.blk]; rfl)

theorem st10 {w : World} {st : List StP} {g n c k : Nat} {x : StP} (h3 : w.ownsRow 0 115 10 (.slice (some ⟨g, 0, none⟩) n c) n (st.flatMap StP.cells)) (hx : st[k]? = some x) :
  w.cell? ⟨g, k * 10, none⟩ = some (.int .u8 x.name.toNat) ∧ w.cell? ⟨g, k * 10 + 1, none⟩ = some (.int .i64 x.place) ∧ w.cell? ⟨g, k * 10 + 2, none⟩ = some (.int .i64 x.depth) ∧ w.cell? ⟨g, k * 10 + 3, none⟩ = some (.int .i64 x.kind) ∧
  w.cell? ⟨g, k * 10 + 4, none⟩ = some (.int .i64 x.outer) ∧ w.cell? ⟨g, k * 10 + 5, none⟩ = some (.int .i64 x.end_) ∧ w.cell? ⟨g, k * 10 + 6, none⟩ = some (.string x.enter) ∧ w.cell? ⟨g, k * 10 + 7, none⟩ = some (.string x.leave) ∧
  w.cell? ⟨g, k * 10 + 8, none⟩ = some (.bool x.rem) ∧ w.cell? ⟨g, k * 10 + 9, none⟩ = some (.bool x.wh) := by
 have key : ∀ o v, o < 10 → x.cells[o]? = some v → w.cell? ⟨g, k * 10 + o, none⟩ = some v := fun o v ho hv =>
  (row_cell h3 (k * 10 + o) v (by rw [flat_get StP.cells 10 StP.len st k o x hx ho]; exact hv)).1
 exact ⟨key 0 _ (by omega) rfl, key 1 _ (by omega) rfl, key 2 _ (by omega) rfl, key 3 _ (by omega) rfl, key 4 _ (by omega) rfl, key 5 _ (by omega) rfl, key 6 _ (by omega) rfl, key 7 _ (by omega) rfl, key 8 _ (by omega) rfl, key 9 _ (by omega) rfl⟩

def isNmP (st : List StP) (c : UInt8) (k : Nat) : Bool := match st[k]? with | some x => x.name == c | none => false
def idxP (st : List StP) (c : UInt8) : Int := match firstB (isNmP st c) st.length with | some k => k | none => -1
theorem isNmP_at {st : List StP} {k : Nat} {x : StP} (h : st[k]? = some x) (c : UInt8) : isNmP st c k = (x.name == c) := by simp [isNmP, h]
theorem ret_i64 {a b : Int} (h : a = b) : Ending.returned (.int .i64 a) = .returned (.int .i64 b) := by rw [h]

set_option maxRecDepth 100000 in
set_option maxHeartbeats 1000000 in
theorem numberOf_any (w : World) (b : Nat) (st : List StP) (ws : Ws) (c : UInt8) (hp : PlV w b st ws) (hl : st.length ≤ 1000000) :
    Calls Tryz.prog 41 #[.pointer (some ⟨b, 0, none⟩), .int .u8 c.toNat] w fun e w' => e = .returned (.int .i64 (idxP st c)) ∧ Fr (fun _ => False) w w' := by
  obtain ⟨c0, -, -⟩ := hp.cells
  obtain ⟨va, vc, hv⟩ := row_len hp.r2
  rw [hv] at c0
  have HV : Hid _ := hv
  clear hv
  go_enter Tryz.func41, Tryz.ntmps41
  go_wp2_with fail
  clear c0
  go_loopw [12] (fun i wr => ∃ k : Nat, k ≤ st.length ∧ i = .int .i64 k ∧ Hid (∀ j, j < k → isNmP st c j = false) ∧ Fr (fun _ => False) w wr) (fun i _ => st.length - (intOf i).toNat)
  case atStart => exact ⟨0, Nat.zero_le _, rfl, fun j hj => by omega, Fr.refl _ _⟩
  case round =>
    obtain ⟨k, hk, rfl, HJ, hfr⟩ := hrel
    by_cases hlt : (k : Int) < st.length
    · have hlt' : k < st.length := by omega
      obtain ⟨gg, cc, hv3, hcc⟩ := row_form hp.r2 (by omega)
      have hvv := HV.out.symm.trans hv3
      injection hvv with q1 q2 q3
      subst q1
      subst q3
      clear q2
      obtain ⟨x, hx⟩ : ∃ x, st[k]? = some x := ⟨_, List.getElem?_eq_getElem hlt'⟩
      have hr := row_fr hp.r2 hfr (fun _ _ h => h)
      rw [hv3] at hr
      obtain ⟨x0, x1, x2, x3, x4, x5, x6, x7, x8, x9⟩ := st10 hr hx
      have HN : Hid _ := isNmP_at hx c
      clear hx hr hv3
      by_cases e : x.name = c
      · have HI : Hid (idxP st c = k) := by
          show _ = _
          rw [idxP, firstB_some (isNmP st c) k (by rw [HN.out]; simp [e]) HJ.out st.length hlt']
        subst e
        go_wp2_with fail
        go_ret
        exact ⟨ret_i64 HI.out.symm, hfr.allocr _⟩
      · have hne : ((x.name.toNat : Int) == c.toNat) = false := by
          rw [beq_eq_false_iff_ne]; intro h; exact e (UInt8.toNat_inj.1 (by omega))
        go_wp2_with fail
        go_roundw
        case rel => exact ⟨k + 1, by omega, by go_num, below_step HJ.out (by rw [HN.out]; simpa using e), hfr.allocr _⟩
        case measure => simp [intOf]; omega
    · have HI : Hid (idxP st c = -1) := by
        show _ = _
        rw [idxP, firstB_none (isNmP st c) st.length (fun j hj => HJ.out j (by omega))]
      go_wp2_with fail
      go_ret
      exact ⟨ret_i64 HI.out.symm, hfr⟩

def dpP (st : List StP) (k : Nat) : Bool := match st[k]? with | some x => decide (6 < x.depth) | none => false
def twP (st : List StP) (k : Nat) : Bool := match st[k]? with | some x => decide (idxP st x.name < (k : Int)) | none => false
def plAt (st : List StP) (k : Nat) : Nat := match st[k]? with | some x => x.place | none => 0
def ftd (st : List StP) : Int := match firstB (dpP st) st.length with | some k => plAt st k | none => -1
def ftw (st : List StP) : Int := match firstB (twP st) st.length with | some k => plAt st k | none => -1
theorem dpP_at {st : List StP} {k : Nat} {x : StP} (h : st[k]? = some x) : dpP st k = decide (6 < x.depth) := by simp [dpP, h]
theorem twP_at {st : List StP} {k : Nat} {x : StP} (h : st[k]? = some x) : twP st k = decide (idxP st x.name < (k : Int)) := by simp [twP, h]
theorem plAt_at {st : List StP} {k : Nat} {x : StP} (h : st[k]? = some x) : plAt st k = x.place := by simp [plAt, h]
theorem idxP_bd (st : List StP) (c : UInt8) : -1 ≤ idxP st c ∧ idxP st c < (st.length : Int) := by
 unfold idxP
 rcases firstB_spec (isNmP st c) st.length with ⟨h, _⟩ | ⟨k, h, hk, _⟩ <;> rw [h] <;> simp only <;> omega

set_option maxRecDepth 100000 in
set_option maxHeartbeats 1000000 in
theorem firstTooDeep_any (w : World) (b : Nat) (st : List StP) (ws : Ws) (hp : PlV w b st ws) (hl : st.length ≤ 1000000) :
    Calls Tryz.prog 25 #[.pointer (some ⟨b, 0, none⟩)] w fun e w' => e = .returned (.int .i64 (ftd st)) ∧ Fr (fun _ => False) w w' := by
  obtain ⟨c0, -, -⟩ := hp.cells
  obtain ⟨va, vc, hv⟩ := row_len hp.r2
  rw [hv] at c0
  have HV : Hid _ := hv
  clear hv
  go_enter Tryz.func25, Tryz.ntmps25
  go_wp2_with fail
  clear c0
  go_loopw [10] (fun i wr => ∃ k : Nat, k ≤ st.length ∧ i = .int .i64 k ∧ Hid (∀ j, j < k → dpP st j = false) ∧ Fr (fun _ => False) w wr) (fun i _ => st.length - (intOf i).toNat)
  case atStart => exact ⟨0, Nat.zero_le _, rfl, fun j hj => by omega, Fr.refl _ _⟩
  case round =>
    obtain ⟨k, hk, rfl, HJ, hfr⟩ := hrel
    by_cases hlt : (k : Int) < st.length
    · have hlt' : k < st.length := by omega
      obtain ⟨gg, cc, hv3, hcc⟩ := row_form hp.r2 (by omega)
      have hvv := HV.out.symm.trans hv3
      injection hvv with q1 q2 q3
      subst q1
      subst q3
      clear q2
      obtain ⟨x, hx⟩ : ∃ x, st[k]? = some x := ⟨_, List.getElem?_eq_getElem hlt'⟩
      have hr := row_fr hp.r2 hfr (fun _ _ h => h)
      rw [hv3] at hr
      obtain ⟨x0, x1, x2, x3, x4, x5, x6, x7, x8, x9⟩ := st10 hr hx
      have HN : Hid _ := dpP_at hx
      have HA : Hid _ := plAt_at hx
      clear hx hr hv3
      by_cases e : (6 : Int) < x.depth
      · have HI : Hid (ftd st = x.place) := by
          show _ = _
          rw [ftd, firstB_some (dpP st) k (by rw [HN.out]; simp; omega) HJ.out st.length hlt']
          simp only
          rw [HA.out]
        go_wp2_with fail
        go_ret
        exact ⟨ret_i64 HI.out.symm, hfr.allocr _⟩
      · go_wp2_with fail
        go_roundw
        case rel => exact ⟨k + 1, by omega, by go_num, below_step HJ.out (by rw [HN.out]; simp; omega), hfr.allocr _⟩
        case measure => simp [intOf]; omega
    · have HI : Hid (ftd st = -1) := by
        show _ = _
        rw [ftd, firstB_none (dpP st) st.length (fun j hj => HJ.out j (by omega))]
      go_wp2_with fail
      go_ret
      exact ⟨ret_i64 HI.out.symm, hfr⟩

set_option maxRecDepth 100000 in
set_option maxHeartbeats 1000000 in
theorem firstTwice_any (w : World) (b : Nat) (st : List StP) (ws : Ws) (hp : PlV w b st ws) (hl : st.length ≤ 1000000) :
    Calls Tryz.prog 26 #[.pointer (some ⟨b, 0, none⟩)] w fun e w' => e = .returned (.int .i64 (ftw st)) ∧ Fr (fun _ => False) w w' := by
  obtain ⟨c0, -, -⟩ := hp.cells
  obtain ⟨va, vc, hv⟩ := row_len hp.r2
  rw [hv] at c0
  have HV : Hid _ := hv
  clear hv
  go_enter Tryz.func26, Tryz.ntmps26
  go_wp2_with fail
  clear c0
  go_loopw [10] (fun i wr => ∃ k : Nat, k ≤ st.length ∧ i = .int .i64 k ∧ Hid (∀ j, j < k → twP st j = false) ∧ Fr (fun _ => False) w wr) (fun i _ => st.length - (intOf i).toNat)
  case atStart => exact ⟨0, Nat.zero_le _, rfl, fun j hj => by omega, Fr.refl _ _⟩
  case round =>
    obtain ⟨k, hk, rfl, HJ, hfr⟩ := hrel
    by_cases hlt : (k : Int) < st.length
    · have hlt' : k < st.length := by omega
      obtain ⟨gg, cc, hv3, hcc⟩ := row_form hp.r2 (by omega)
      have hvv := HV.out.symm.trans hv3
      injection hvv with q1 q2 q3
      subst q1
      subst q3
      clear q2
      obtain ⟨x, hx⟩ : ∃ x, st[k]? = some x := ⟨_, List.getElem?_eq_getElem hlt'⟩
      have hr := row_fr hp.r2 hfr (fun _ _ h => h)
      rw [hv3] at hr
      obtain ⟨x0, x1, x2, x3, x4, x5, x6, x7, x8, x9⟩ := st10 hr hx
      have HN : Hid _ := twP_at hx
      have HA : Hid _ := plAt_at hx
      clear hx hr hv3
      have hbd := idxP_bd st x.name
      have hpr := (hp.fr0 hfr)
      by_cases e : idxP st x.name < (k : Int)
      · have HI : Hid (ftw st = x.place) := by
          show _ = _
          rw [ftw, firstB_some (twP st) k (by rw [HN.out]; simpa using e) HJ.out st.length hlt']
          simp only
          rw [HA.out]
        go_wp2_with fail
        refine (numberOf_any _ b st ws x.name (by exact hpr.fr0 (Fr.alloc _ _ _)) hl).mono ?_
        rintro e' w2 ⟨rfl, hf2⟩
        have xb := Blk.fr (Blk.new wr #[.int .u8 x.name.toNat, .int .i64 x.place, .int .i64 x.depth, .int .i64 x.kind, .int .i64 x.outer, .int .i64 x.end_, .string x.enter, .string x.leave, .bool x.rem, .bool x.wh] 115) hf2 (fun h => h)
        have y1 : w2.cell? ⟨wr.heap.size, 1, none⟩ = some (.int .i64 x.place) := by rw [Blk.cell xb]; rfl
        go_wp2_with fail
        go_ret
        exact ⟨ret_i64 HI.out.symm, (hfr.allocr _).thenr hf2 (fun _ _ h => h)⟩
      · have de : decide (idxP st x.name < (k : Int)) = false := by simpa using e
        go_wp2_with fail
        refine (numberOf_any _ b st ws x.name (by exact hpr.fr0 (Fr.alloc _ _ _)) hl).mono ?_
        rintro e' w2 ⟨rfl, hf2⟩
        go_wp2_with fail
        go_roundw
        case rel => exact ⟨k + 1, by omega, by go_num, below_step HJ.out (by rw [HN.out]; exact de), (hfr.allocr _).thenr hf2 (fun _ _ h => h)⟩
        case measure => simp [intOf]; omega
    · have HI : Hid (ftw st = -1) := by
        show _ = _
        rw [ftw, firstB_none (twP st) st.length (fun j hj => HJ.out j (by omega))]
      go_wp2_with fail
      go_ret
      exact ⟨ret_i64 HI.out.symm, hfr⟩

theorem mem_modify {α : Type} {l : List α} {k : Nat} {g : α → α} {y : α} (h : y ∈ l.modify k g) : (∃ x, l[k]? = some x ∧ y = g x) ∨ ∃ i, i ≠ k ∧ l[i]? = some y := by
 obtain ⟨i, hi⟩ := List.mem_iff_getElem?.1 h
 rw [List.getElem?_modify] at hi
 by_cases e : k = i
 ·subst e
  simp only [if_true] at hi
  cases hx : l[k]? with
  | none => rw [hx] at hi; cases hi
  | some x => rw [hx] at hi; simp at hi; exact Or.inl ⟨x, rfl, hi.symm⟩
 ·simp only [e, if_false] at hi
  right
  refine ⟨i, fun h => e h.symm, ?_⟩
  simpa using hi

theorem flat_modify_same {α : Type} (f : α → List Value) (g : α → α) (h : ∀ x, f (g x) = f x) : ∀ (l : List α) (k : Nat), (l.modify k g).flatMap f = l.flatMap f
 | [], _ => by simp
 | x :: l, 0 => by simp [List.flatMap_cons, h]
 | x :: l, k + 1 => by simp [List.flatMap_cons, flat_modify_same f g h l k]

theorem map_modify_same {α β : Type} (f : α → β) (g : α → α) (h : ∀ x, f (g x) = f x) : ∀ (l : List α) (k : Nat), (l.modify k g).map f = l.map f
 | [], _ => by simp
 | x :: l, 0 => by simp [h]
 | x :: l, k + 1 => by simp [map_modify_same f g h l k]

theorem pw_modify (th : List TrH) (k : Nat) (g : TrH → TrH) (h : ∀ x, (g x).cv = x.cv) (hp : th.Pairwise fun t u => Ap t.cv u.cv) : (th.modify k g).Pairwise fun t u => Ap t.cv u.cv := by
 have h1 : (th.map TrH.cv).Pairwise Ap := List.pairwise_map.2 hp
 rw [← map_modify_same TrH.cv g h th k] at h1
 exact List.pairwise_map.1 h1

theorem pw_at {th : List TrH} (hp : th.Pairwise fun t u => Ap t.cv u.cv) {i k : Nat} {t u : TrH} (hi : th[i]? = some t) (hk : th[k]? = some u) (hne : i ≠ k) : Ap t.cv u.cv := by
 obtain ⟨h1, rfl⟩ := List.getElem?_eq_some_iff.1 hi
 obtain ⟨h2, rfl⟩ := List.getElem?_eq_some_iff.1 hk
 rcases Nat.lt_or_gt_of_ne hne with h | h
 ·exact List.pairwise_iff_getElem.1 hp i k h1 h2 h
 ·exact (List.pairwise_iff_getElem.1 hp k i h2 h1 h).symm

def setC (j : Nat) (v : Int) (x : TrH) : TrH := ⟨{ x.q with conds := x.q.conds.modify j fun c => { c with state := v } }, x.cv⟩
def setT (v : Int) (x : TrH) : TrH := ⟨{ x.q with ts := v }, x.cv⟩

section
variable {w : World} {b : Nat} {st : List StP} {ws : Ws}

theorem PlV.pokeC {k j gc cc : Nat} {t : TrH} {c : CdP} (h : PlV w b st ws) (hk : ws.th[k]? = some t) (hcv : t.cv = .slice (some ⟨gc, 0, none⟩) t.q.conds.length cc) (hj : t.q.conds[j]? = some c) (v : Int) :
  PlV (w.setCell ⟨gc, j * 4 + 2, none⟩ (.int .i64 v)) b st { ws with th := ws.th.modify k (setC j v) } ∧ Fr (OwnR b ws) w (w.setCell ⟨gc, j * 4 + 2, none⟩ (.int .i64 v)) := by
 have ho : t.cv.ownBlock = some gc := by rw [hcv]; rfl
 have htm : t ∈ ws.th := List.mem_of_getElem? hk
 have f : Fr (· = gc) w (w.setCell ⟨gc, j * 4 + 2, none⟩ (.int .i64 v)) := Fr.setCell _ _ _ _ rfl
 have hjl := (List.getElem?_eq_some_iff.1 hj).1
 refine ⟨{ blk := Blk.fr h.blk f (fun e => (h.nc t htm).1 (by rw [ho, e])), r2 := row_fr h.r2 f (fun q hq e => (h.nc t htm).2.1 gc ho (by rw [hq, e])), r3 := ?_, rc := ?_, n2 := h.n2, n3 := h.n3, d23 := h.d23, nc := ?_, pw := pw_modify _ _ _ (fun _ => rfl) h.pw }, f.mono (fun q _ e => Or.inr (Or.inr (Or.inr ⟨t, htm, by rw [ho, e]⟩)))⟩
 ·have h3 := row_fr h.r3 f (fun q hq e => (h.nc t htm).2.2 gc ho (by rw [hq, e]))
  show World.ownsRow _ _ _ _ ws.v3 (List.length (ws.th.modify k (setC j v))) (List.flatMap TrH.cells (ws.th.modify k (setC j v)))
  rw [List.length_modify, flat_modify_same TrH.cells (setC j v) (fun _ => rfl)]
  exact h3
 ·intro u hu
  rcases mem_modify hu with ⟨x, hx, rfl⟩ | ⟨i, hne, hi⟩
  ·rw [hk] at hx
   injection hx with hx
   subst hx
   have hrow := h.rc t htm
   rw [hcv] at hrow
   have h4 := row_set hrow (j * 4 + 2) (.int .i64 v) (by omega)
   show World.ownsRow _ _ _ _ t.cv (List.length (List.modify _ _ _)) (List.flatMap _ (List.modify _ _ _))
   rw [List.length_modify, flat_set CdP.cells 4 CdP.len _ 2 (by decide) (.int .i64 v) t.q.conds j (fun y _ => rfl) hjl, hcv]
   exact h4
  ·exact row_fr (h.rc u (List.mem_of_getElem? hi)) f (fun q hq e => pw_at h.pw hi hk hne q hq (by rw [ho, e]))
 ·intro u hu
  rcases mem_modify hu with ⟨x, hx, rfl⟩ | ⟨i, hne, hi⟩
  ·exact h.nc x (List.mem_of_getElem? hx)
  ·exact h.nc u (List.mem_of_getElem? hi)

theorem PlV.pokeT {k g3 c3 : Nat} {t : TrH} (h : PlV w b st ws) (hk : ws.th[k]? = some t) (hv : ws.v3 = .slice (some ⟨g3, 0, none⟩) ws.th.length c3) (v : Int) :
  PlV (w.setCell ⟨g3, k * 9 + 5, none⟩ (.int .i64 v)) b st { ws with th := ws.th.modify k (setT v) } ∧ Fr (OwnR b ws) w (w.setCell ⟨g3, k * 9 + 5, none⟩ (.int .i64 v)) := by
 have ho : ws.v3.ownBlock = some g3 := by rw [hv]; rfl
 have hkl := (List.getElem?_eq_some_iff.1 hk).1
 have f : Fr (· = g3) w (w.setCell ⟨g3, k * 9 + 5, none⟩ (.int .i64 v)) := Fr.setCell _ _ _ _ rfl
 refine ⟨{ blk := Blk.fr h.blk f (fun e => h.n3 (by rw [ho, e])), r2 := row_fr h.r2 f (fun q hq e => h.d23 q hq (by rw [ho, e])), r3 := ?_, rc := ?_, n2 := h.n2, n3 := h.n3, d23 := h.d23, nc := ?_, pw := pw_modify _ _ _ (fun _ => rfl) h.pw }, f.mono (fun q _ e => Or.inr (Or.inr (Or.inl (by rw [ho, e]))))⟩
 ·have hrow := h.r3
  rw [hv] at hrow
  have h4 := row_set hrow (k * 9 + 5) (.int .i64 v) (by omega)
  show World.ownsRow _ _ _ _ ws.v3 (List.length (List.modify _ _ _)) (List.flatMap _ (List.modify _ _ _))
  rw [List.length_modify, flat_set TrH.cells 9 TrH.len _ 5 (by decide) (.int .i64 v) ws.th k (fun y _ => rfl) hkl, hv]
  exact h4
 ·intro u hu
  have key : ∀ y ∈ ws.th, (w.setCell ⟨g3, k * 9 + 5, none⟩ (.int .i64 v)).ownsRow 0 123 4 y.cv y.q.conds.length (y.q.conds.flatMap CdP.cells) := fun y hy =>
   row_fr (h.rc y hy) f (fun q hq e => (h.nc y hy).2.2 q hq (by rw [ho, e]))
  rcases mem_modify hu with ⟨x, hx, rfl⟩ | ⟨i, hne, hi⟩
  ·exact key x (List.mem_of_getElem? hx)
  ·exact key u (List.mem_of_getElem? hi)
 ·intro u hu
  rcases mem_modify hu with ⟨x, hx, rfl⟩ | ⟨i, hne, hi⟩
  ·exact h.nc x (List.mem_of_getElem? hx)
  ·exact h.nc u (List.mem_of_getElem? hi)

theorem PlV.pokeS {g c : Nat} (h : PlV w b st ws) (hv : ws.v2 = .slice (some ⟨g, 0, none⟩) st.length c) (j : Nat) (v : Value) (st' : List StP)
  (hl : st'.length = st.length) (hst : st'.flatMap StP.cells = (st.flatMap StP.cells).set j v) (hj : j < st.length * 10) :
  PlV (w.setCell ⟨g, j, none⟩ v) b st' ws ∧ Fr (OwnR b ws) w (w.setCell ⟨g, j, none⟩ v) := by
 have ho : ws.v2.ownBlock = some g := by rw [hv]; rfl
 have f : Fr (· = g) w (w.setCell ⟨g, j, none⟩ v) := Fr.setCell _ _ _ _ rfl
 refine ⟨{ blk := Blk.fr h.blk f (fun e => h.n2 (by rw [ho, e])), r2 := ?_, r3 := row_fr h.r3 f (fun k hk e => h.d23 g ho (by rw [hk, e])), rc := fun t ht => row_fr (h.rc t ht) f (fun k hk e => (h.nc t ht).2.1 k hk (by rw [ho, e])), n2 := h.n2, n3 := h.n3, d23 := h.d23, nc := h.nc, pw := h.pw }, f.mono (fun k _ e => Or.inr (Or.inl (by rw [ho, e])))⟩
 have h3 := h.r2
 rw [hv] at h3 ⊢
 have := row_set h3 j v hj
 rw [hst, hl]
 exact this

theorem PlV.tr9 {g3 c3 k : Nat} {t : TrH} (h : PlV w b st ws) (hv : ws.v3 = .slice (some ⟨g3, 0, none⟩) ws.th.length c3) (hk : ws.th[k]? = some t) :
  w.cell? ⟨g3, k * 9, none⟩ = some (.int .i64 t.q.own) ∧ w.cell? ⟨g3, k * 9 + 1, none⟩ = some (.int .u8 t.q.event.toNat) ∧ w.cell? ⟨g3, k * 9 + 2, none⟩ = some t.cv ∧ w.cell? ⟨g3, k * 9 + 3, none⟩ = some (.int .u8 t.q.tn.toNat) ∧
  w.cell? ⟨g3, k * 9 + 4, none⟩ = some (.int .i64 t.q.tp) ∧ w.cell? ⟨g3, k * 9 + 5, none⟩ = some (.int .i64 t.q.ts) ∧ w.cell? ⟨g3, k * 9 + 6, none⟩ = some (.int .u8 t.q.mark.toNat) ∧ w.cell? ⟨g3, k * 9 + 7, none⟩ = some (.int .i64 t.q.mp) ∧
  w.cell? ⟨g3, k * 9 + 8, none⟩ = some (.string t.q.acts) ∧ w.frozen? ⟨g3, k * 9 + 5, none⟩ = false := by
 have h3 := h.r3
 rw [hv] at h3
 have key : ∀ o v, o < 9 → t.cells[o]? = some v → w.cell? ⟨g3, k * 9 + o, none⟩ = some v ∧ w.frozen? ⟨g3, k * 9 + o, none⟩ = false := fun o v ho hvv =>
  row_cell h3 (k * 9 + o) v (by rw [flat_get TrH.cells 9 TrH.len ws.th k o t hk ho]; exact hvv)
 exact ⟨(key 0 _ (by omega) rfl).1, (key 1 _ (by omega) rfl).1, (key 2 _ (by omega) rfl).1, (key 3 _ (by omega) rfl).1, (key 4 _ (by omega) rfl).1, (key 5 _ (by omega) rfl).1, (key 6 _ (by omega) rfl).1, (key 7 _ (by omega) rfl).1, (key 8 _ (by omega) rfl).1, (key 5 _ (by omega) rfl).2⟩
theorem PlV.cd4 {gc cc k j : Nat} {t : TrH} {c : CdP} (h : PlV w b st ws) (hk : ws.th[k]? = some t) (hcv : t.cv = .slice (some ⟨gc, 0, none⟩) t.q.conds.length cc) (hj : t.q.conds[j]? = some c) :
  w.cell? ⟨gc, j * 4, none⟩ = some (.int .u8 c.name.toNat) ∧ w.cell? ⟨gc, j * 4 + 1, none⟩ = some (.int .i64 c.place) ∧ w.cell? ⟨gc, j * 4 + 2, none⟩ = some (.int .i64 c.state) ∧ w.cell? ⟨gc, j * 4 + 3, none⟩ = some (.bool c.active) ∧ w.frozen? ⟨gc, j * 4 + 2, none⟩ = false := by
 have h3 := h.rc t (List.mem_of_getElem? hk)
 rw [hcv] at h3
 have key : ∀ o v, o < 4 → c.cells[o]? = some v → w.cell? ⟨gc, j * 4 + o, none⟩ = some v ∧ w.frozen? ⟨gc, j * 4 + o, none⟩ = false := fun o v ho hvv =>
  row_cell h3 (j * 4 + o) v (by rw [flat_get CdP.cells 4 CdP.len t.q.conds j o c hj ho]; exact hvv)
 exact ⟨(key 0 _ (by omega) rfl).1, (key 1 _ (by omega) rfl).1, (key 2 _ (by omega) rfl).1, (key 3 _ (by omega) rfl).1, (key 2 _ (by omega) rfl).2⟩
end

end Go.Proofs.YtmolmbeeoecnfaaGreatDoor
