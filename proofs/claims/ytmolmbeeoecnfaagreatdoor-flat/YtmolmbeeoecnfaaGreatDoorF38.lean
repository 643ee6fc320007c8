/- Own work: PenH. -/
import Derived.Test.YtmolmbeeoecnfaaGreatDoorF09
import Derived.Test.YtmolmbeeoecnfaaGreatDoorF01
/- Own work: the walks of the document's chart: index. -/
namespace Go.Proofs.YtmolmbeeoecnfaaGreatDoor
open Go.RowKit Go.BigFrame
set_option linter.unusedVariables false
set_option linter.unusedSimpArgs false

def isNm (st : List StR) (c : UInt8) (k : Nat) : Bool := match st[k]? with | some x => x.name == c | none => false
def idx (st : List StR) (c : UInt8) : Int := match firstB (isNm st c) st.length with | some k => k | none => -1

theorem isNm_at {st : List StR} {k : Nat} {x : StR} (h : st[k]? = some x) (c : UInt8) : isNm st c k = (x.name == c) := by simp [isNm, h]

set_option maxRecDepth 100000 in
set_option maxHeartbeats 400000 in
theorem index_any (w : World) (b o : Nat) (v3 : Value) (st : List StR) (c : UInt8) (hc : w.cell? ⟨b, o, none⟩ = some v3) (hr : w.ownsRow 0 104 8 v3 st.length (st.flatMap StR.cells)) (hl : st.length ≤ 1000000) :
    Calls Tryz.prog 53 #[.pointer (some ⟨b, o, none⟩), .int .u8 c.toNat] w fun e w' => e = .returned (.int .i64 (idx st c)) ∧ w' = w := by
  obtain ⟨va, vc, hv⟩ := row_len hr
  subst hv
  go_enter Tryz.func53, Tryz.ntmps53
  go_wp2_with fail
  go_loop [5] (fun i => ∃ k : Nat, k ≤ st.length ∧ i = .int .i64 k ∧ Hid (∀ j, j < k → isNm st c j = false)) (fun i => st.length - (intOf i).toNat)
  case atStart => exact ⟨0, Nat.zero_le _, rfl, fun j hj => by omega⟩
  case round =>
    obtain ⟨k, hk, rfl, HJ⟩ := hrel
    by_cases hlt : (k : Int) < st.length
    · have hlt' : k < st.length := by omega
      obtain ⟨gg, cc, hv3, hcc⟩ := row_form hr (by omega)
      injection hv3 with e1 e2 e3
      subst e1
      subst e3
      obtain ⟨x, hx⟩ : ∃ x, st[k]? = some x := ⟨_, List.getElem?_eq_getElem hlt'⟩
      have hcell := (row_cell hr (k * 8 + 0) (.int .u8 x.name.toNat) (by rw [flat_get StR.cells 8 StR.len st k 0 x hx (by omega)]; rfl)).1
      rw [Nat.add_zero] at hcell
      have HN : Hid _ := isNm_at hx c
      clear hx e2
      by_cases e : x.name = c
      · have HI : Hid (idx st c = k) := by
          show _ = _
          rw [idx, firstB_some (isNm st c) k (by rw [HN.out]; simp [e]) HJ.out st.length hlt']
        subst e
        go_wp2_with fail
        go_ret
        exact ⟨by rw [HI.out]; rfl, rfl⟩
      · have hne : ((x.name.toNat : Int) == c.toNat) = false := by
          rw [beq_eq_false_iff_ne]; intro h; exact e (UInt8.toNat_inj.1 (by omega))
        go_wp2_with fail
        go_round
        case rel => exact ⟨k + 1, by omega, by go_num, below_step HJ.out (by rw [HN.out]; simpa using e)⟩
        case measure => simp [intOf]; omega
    · have HI : Hid (idx st c = -1) := by
        show _ = _
        rw [idx, firstB_none (isNm st c) st.length (fun j hj => HJ.out j (by omega))]
      go_wp2_with fail
      go_ret
      exact ⟨by rw [HI.out]; rfl, rfl⟩

def dpB (st : List StR) (k : Nat) : Bool := match st[k]? with | some x => decide (6 < x.depth) | none => false
def twB (st : List StR) (k : Nat) : Bool := match st[k]? with | some x => decide (idx st x.name < (k : Int)) | none => false
def rfB (st : List StR) (re : List RfR) (k : Nat) : Bool := match re[k]? with | some r => decide (idx st r.name < 0) | none => false
def kd (st : List StR) (c : UInt8) : Nat := match firstB (isNm st c) st.length with | some k => (match st[k]? with | some x => x.kind | none => 0) | none => 0
def mkB (st : List StR) (ma : List RfR) (k : Nat) : Bool := match ma[k]? with | some r => !(kd st r.name == 1) | none => false
def stAt (st : List StR) (k : Nat) : Nat := match st[k]? with | some x => x.at_ | none => 0
def rfAt (re : List RfR) (k : Nat) : Nat := match re[k]? with | some x => x.at_ | none => 0

def flt (st : List StR) (re ma : List RfR) : Nat × Nat :=
 match firstB (dpB st) st.length with
 | some k => (3, stAt st k)
 | none => match firstB (twB st) st.length with
  | some k => (4, stAt st k)
  | none => match firstB (rfB st re) re.length with
   | some k => (5, rfAt re k)
   | none => match firstB (mkB st ma) ma.length with
    | some k => (6, rfAt ma k)
    | none => (0, 0)

theorem flt3 {st : List StR} {re ma : List RfR} {k : Nat} (h1 : firstB (dpB st) st.length = some k) : flt st re ma = (3, stAt st k) := by simp only [flt, h1]
theorem flt4 {st : List StR} {re ma : List RfR} {k : Nat} (h1 : firstB (dpB st) st.length = none) (h2 : firstB (twB st) st.length = some k) : flt st re ma = (4, stAt st k) := by simp only [flt, h1, h2]
theorem flt5 {st : List StR} {re ma : List RfR} {k : Nat} (h1 : firstB (dpB st) st.length = none) (h2 : firstB (twB st) st.length = none) (h3 : firstB (rfB st re) re.length = some k) : flt st re ma = (5, rfAt re k) := by simp only [flt, h1, h2, h3]
theorem flt6 {st : List StR} {re ma : List RfR} {k : Nat} (h1 : firstB (dpB st) st.length = none) (h2 : firstB (twB st) st.length = none) (h3 : firstB (rfB st re) re.length = none) (h4 : firstB (mkB st ma) ma.length = some k) : flt st re ma = (6, rfAt ma k) := by simp only [flt, h1, h2, h3, h4]
theorem flt0 {st : List StR} {re ma : List RfR} (h1 : firstB (dpB st) st.length = none) (h2 : firstB (twB st) st.length = none) (h3 : firstB (rfB st re) re.length = none) (h4 : firstB (mkB st ma) ma.length = none) : flt st re ma = (0, 0) := by simp only [flt, h1, h2, h3, h4]
theorem dpB_at {st : List StR} {k : Nat} {x : StR} (h : st[k]? = some x) : dpB st k = decide (6 < x.depth) := by simp [dpB, h]
theorem twB_at {st : List StR} {k : Nat} {x : StR} (h : st[k]? = some x) : twB st k = decide (idx st x.name < (k : Int)) := by simp [twB, h]
theorem rfB_at {st : List StR} {re : List RfR} {k : Nat} {x : RfR} (h : re[k]? = some x) : rfB st re k = decide (idx st x.name < 0) := by simp [rfB, h]
theorem mkB_at {st : List StR} {ma : List RfR} {k : Nat} {x : RfR} (h : ma[k]? = some x) : mkB st ma k = !(kd st x.name == 1) := by simp [mkB, h]
theorem stAt_at {st : List StR} {k : Nat} {x : StR} (h : st[k]? = some x) : stAt st k = x.at_ := by simp [stAt, h]
theorem rfAt_at {st : List RfR} {k : Nat} {x : RfR} (h : st[k]? = some x) : rfAt st k = x.at_ := by simp [rfAt, h]

theorem idx_bd (st : List StR) (c : UInt8) : -1 ≤ idx st c ∧ idx st c < (st.length : Int) := by
 unfold idx
 rcases firstB_spec (isNm st c) st.length with ⟨h, _⟩ | ⟨k, h, hk, _⟩ <;> rw [h] <;> simp only <;> omega
theorem idx_some (st : List StR) (c : UInt8) (h : ¬ idx st c < 0) : ∃ (k : Nat) (x : StR), idx st c = k ∧ st[k]? = some x ∧ kd st c = x.kind ∧ x.name = c := by
 unfold idx at h ⊢
 unfold kd
 rcases firstB_spec (isNm st c) st.length with ⟨h1, _⟩ | ⟨k, h1, hk, hp, _⟩ <;> rw [h1] at h ⊢
 ·simp at h
 ·have hx : st[k]? = some st[k] := List.getElem?_eq_getElem hk
  refine ⟨k, st[k], rfl, hx, by simp [hx], ?_⟩
  rw [isNm_at hx] at hp
  simpa using hp

theorem PenV.reCell {w : World} {b : Nat} {s : ByteArray} {p : Pn} {vs : Vs} {g c k : Nat} {x : RfR} (h : PenV w b s p vs) (hv : vs.v5 = .slice (some ⟨g, 0, none⟩) p.re.length c) (hx : p.re[k]? = some x) :
  w.cell? ⟨g, k * 2, none⟩ = some (.int .u8 x.name.toNat) ∧ w.cell? ⟨g, k * 2 + 1, none⟩ = some (.int .i64 x.at_) := by
 have h5 := h.r5
 rw [hv] at h5
 exact ⟨(row_cell h5 (k * 2 + 0) _ (by rw [flat_get RfR.cells 2 RfR.len p.re k 0 x hx (by omega)]; rfl)).1, (row_cell h5 (k * 2 + 1) _ (by rw [flat_get RfR.cells 2 RfR.len p.re k 1 x hx (by omega)]; rfl)).1⟩
theorem PenV.maCell {w : World} {b : Nat} {s : ByteArray} {p : Pn} {vs : Vs} {g c k : Nat} {x : RfR} (h : PenV w b s p vs) (hv : vs.v6 = .slice (some ⟨g, 0, none⟩) p.ma.length c) (hx : p.ma[k]? = some x) :
  w.cell? ⟨g, k * 2, none⟩ = some (.int .u8 x.name.toNat) ∧ w.cell? ⟨g, k * 2 + 1, none⟩ = some (.int .i64 x.at_) := by
 have h6 := h.r6
 rw [hv] at h6
 exact ⟨(row_cell h6 (k * 2 + 0) _ (by rw [flat_get RfR.cells 2 RfR.len p.ma k 0 x hx (by omega)]; rfl)).1, (row_cell h6 (k * 2 + 1) _ (by rw [flat_get RfR.cells 2 RfR.len p.ma k 1 x hx (by omega)]; rfl)).1⟩
theorem PenV.stCells {w : World} {b : Nat} {s : ByteArray} {p : Pn} {vs : Vs} {g c k : Nat} {x : StR} (h : PenV w b s p vs) (hv : vs.v3 = .slice (some ⟨g, 0, none⟩) p.st.length c) (hx : p.st[k]? = some x) :
  w.cell? ⟨g, k * 8, none⟩ = some (.int .u8 x.name.toNat) ∧ w.cell? ⟨g, k * 8 + 1, none⟩ = some (.int .i64 x.at_) ∧ w.cell? ⟨g, k * 8 + 3, none⟩ = some (.int .i64 x.depth) ∧ w.cell? ⟨g, k * 8 + 4, none⟩ = some (.int .i64 x.kind) := by
 have h3 := h.r3
 rw [hv] at h3
 refine ⟨?_, ?_, ?_, ?_⟩
 ·exact (row_cell h3 (k * 8 + 0) _ (by rw [flat_get StR.cells 8 StR.len p.st k 0 x hx (by omega)]; rfl)).1
 ·exact (row_cell h3 (k * 8 + 1) _ (by rw [flat_get StR.cells 8 StR.len p.st k 1 x hx (by omega)]; rfl)).1
 ·exact (row_cell h3 (k * 8 + 3) _ (by rw [flat_get StR.cells 8 StR.len p.st k 3 x hx (by omega)]; rfl)).1
 ·exact (row_cell h3 (k * 8 + 4) _ (by rw [flat_get StR.cells 8 StR.len p.st k 4 x hx (by omega)]; rfl)).1

theorem ret2 {a b c d : Nat} {p : Nat × Nat} (h : p = (a, b)) (hc : c = a) (hd : d = b) : Ending.returned (.tuple #[.int .i64 c, .int .i64 d]) = .returned (.tuple #[.int .i64 p.1, .int .i64 p.2]) := by rw [h, hc, hd]

set_option maxRecDepth 100000 in
set_option maxHeartbeats 1000000 in
theorem faults_any (w : World) (b : Nat) (s : ByteArray) (p : Pn) (vs : Vs) (hp : PenV w b s p vs) (h1 : p.st.length ≤ 1000000) (h2 : p.re.length ≤ 1000000) (h3 : p.ma.length ≤ 1000000)
    (hm : ∀ m ∈ p.ma, ∃ r ∈ p.re, r.name = m.name) :
    Calls Tryz.prog 34 #[.pointer (some ⟨b, 3, none⟩)] w fun e w' => e = .returned (.tuple #[.int .i64 (flt p.st p.re p.ma).1, .int .i64 (flt p.st p.re p.ma).2]) ∧ ∃ n, w' = w.drewN n := by
  obtain ⟨-, -, -, c3, c4, c5, c6, -⟩ := hp.blk.cells
  obtain ⟨a3, k3, e3⟩ := row_len hp.r3
  obtain ⟨a5, k5, e5⟩ := row_len hp.r5
  obtain ⟨a6, k6, e6⟩ := row_len hp.r6
  rw [e3] at c3
  rw [e5] at c5
  rw [e6] at c6
  have HM : Hid (∀ m ∈ p.ma, ∃ r ∈ p.re, r.name = m.name) := hm
  clear hm c4
  have E3 : Hid _ := e3
  have E5 : Hid _ := e5
  have E6 : Hid _ := e6
  clear e3 e5 e6
  go_enter Tryz.func34, Tryz.ntmps34
  go_wp2_with fail
  go_loop [4] (fun i => ∃ k : Nat, k ≤ p.st.length ∧ i = .int .i64 k ∧ Hid (∀ j, j < k → dpB p.st j = false)) (fun i => p.st.length - (intOf i).toNat)
  case atStart => exact ⟨0, Nat.zero_le _, rfl, fun j hj => by omega⟩
  case round =>
    obtain ⟨k, hk, rfl, HJ⟩ := hrel
    by_cases hlt : (k : Int) < p.st.length
    · have hlt' : k < p.st.length := by omega
      obtain ⟨gg, cc, hv3, hcc⟩ := row_form hp.r3 (by omega)
      have hvv := E3.out.symm.trans hv3
      injection hvv with q1 q2 q3
      subst q1
      subst q3
      clear q2
      obtain ⟨x, hx⟩ : ∃ x, p.st[k]? = some x := ⟨_, List.getElem?_eq_getElem hlt'⟩
      obtain ⟨x0, x1, x3, x4⟩ := hp.stCells hv3 hx
      have HN : Hid _ := dpB_at hx
      have HA : Hid _ := stAt_at hx
      clear hx hv3
      by_cases e : (6 : Int) < x.depth
      · have HF : Hid (flt p.st p.re p.ma = (3, x.at_)) := by
          show _ = _
          rw [flt3 (firstB_some (dpB p.st) k (by rw [HN.out]; simp; omega) HJ.out p.st.length hlt'), HA.out]
        go_wp2_with fail
        go_big_quiet (fail)
        go_wp2_with fail
        go_ret2
        exact ⟨ret2 HF.out rfl rfl, _, rfl⟩
      · go_wp2_with fail
        go_round
        case rel => exact ⟨k + 1, by omega, by go_num, below_step HJ.out (by rw [HN.out]; simp; omega)⟩
        case measure => simp [intOf]; omega
    · have HD1 : Hid (firstB (dpB p.st) p.st.length = none) := firstB_none _ _ (fun j hj => HJ.out j (by omega))
      clear HJ
      go_wp2_with fail
      go_loop [5] (fun i => ∃ k : Nat, k ≤ p.st.length ∧ i = .int .i64 k ∧ Hid (∀ j, j < k → twB p.st j = false)) (fun i => p.st.length - (intOf i).toNat)
      case atStart => exact ⟨0, Nat.zero_le _, rfl, fun j hj => by omega⟩
      case round =>
        clear hk hlt
        obtain ⟨k, hk, rfl, HJ⟩ := hrel
        by_cases hlt : (k : Int) < p.st.length
        · have hlt' : k < p.st.length := by omega
          obtain ⟨gg, cc, hv3, hcc⟩ := row_form hp.r3 (by omega)
          have hvv := E3.out.symm.trans hv3
          injection hvv with q1 q2 q3
          subst q1
          subst q3
          clear q2
          obtain ⟨x, hx⟩ : ∃ x, p.st[k]? = some x := ⟨_, List.getElem?_eq_getElem hlt'⟩
          obtain ⟨x0, x1, x3, x4⟩ := hp.stCells hv3 hx
          have HN : Hid _ := twB_at hx
          have HA : Hid _ := stAt_at hx
          have hr3 := hp.r3
          rw [hv3] at hr3
          have HR : Hid _ := hr3
          clear hx hv3 hr3
          have hbd := idx_bd p.st x.name
          by_cases e : idx p.st x.name < (k : Int)
          · have HF : Hid (flt p.st p.re p.ma = (4, x.at_)) := by
              show _ = _
              rw [flt4 HD1.out (firstB_some (twB p.st) k (by rw [HN.out]; simpa using e) HJ.out p.st.length hlt'), HA.out]
            go_wp2_with fail
            refine (index_any _ b 3 _ p.st x.name c3 HR.out h1).mono ?_
            rintro e' w' ⟨rfl, rfl⟩
            go_wp2_with fail
            go_big_quiet (fail)
            go_wp2_with fail
            go_ret2
            exact ⟨ret2 HF.out rfl rfl, _, rfl⟩
          · have de : decide (idx p.st x.name < (k : Int)) = false := by simpa using e
            go_wp2_with fail
            refine (index_any _ b 3 _ p.st x.name c3 HR.out h1).mono ?_
            rintro e' w' ⟨rfl, rfl⟩
            go_wp2_with fail
            go_round
            case rel => exact ⟨k + 1, by omega, by go_num, below_step HJ.out (by rw [HN.out]; exact de)⟩
            case measure => simp [intOf]; omega
        · have HD2 : Hid (firstB (twB p.st) p.st.length = none) := firstB_none _ _ (fun j hj => HJ.out j (by omega))
          clear HJ
          go_wp2_with fail
          go_loop [7] (fun i => ∃ k : Nat, k ≤ p.re.length ∧ i = .int .i64 k ∧ Hid (∀ j, j < k → rfB p.st p.re j = false)) (fun i => p.re.length - (intOf i).toNat)
          case atStart => exact ⟨0, Nat.zero_le _, rfl, fun j hj => by omega⟩
          case round =>
            clear hk hlt
            obtain ⟨k, hk, rfl, HJ⟩ := hrel
            by_cases hlt : (k : Int) < p.re.length
            · have hlt' : k < p.re.length := by omega
              obtain ⟨gg, cc, hv5, hcc⟩ := row_form hp.r5 (by omega)
              have hvv := E5.out.symm.trans hv5
              injection hvv with q1 q2 q3
              subst q1
              subst q3
              clear q2
              obtain ⟨x, hx⟩ : ∃ x, p.re[k]? = some x := ⟨_, List.getElem?_eq_getElem hlt'⟩
              obtain ⟨x0, x1⟩ := hp.reCell hv5 hx
              have HN : Hid _ := rfB_at (st := p.st) hx
              have HA : Hid _ := rfAt_at hx
              have hr3 := hp.r3
              rw [E3.out] at hr3
              have HR : Hid _ := hr3
              clear hx hv5 hr3
              have hbd := idx_bd p.st x.name
              by_cases e : idx p.st x.name < 0
              · have HF : Hid (flt p.st p.re p.ma = (5, x.at_)) := by
                  show _ = _
                  rw [flt5 HD1.out HD2.out (firstB_some (rfB p.st p.re) k (by rw [HN.out]; simpa using e) HJ.out p.re.length hlt'), HA.out]
                go_wp2_with fail
                refine (index_any _ b 3 _ p.st x.name c3 HR.out h1).mono ?_
                rintro e' w' ⟨rfl, rfl⟩
                go_wp2_with fail
                go_big_quiet (fail)
                go_wp2_with fail
                go_ret2
                exact ⟨ret2 HF.out rfl rfl, _, rfl⟩
              · have de : decide (idx p.st x.name < 0) = false := by simpa using e
                go_wp2_with fail
                refine (index_any _ b 3 _ p.st x.name c3 HR.out h1).mono ?_
                rintro e' w' ⟨rfl, rfl⟩
                go_wp2_with fail
                go_round
                case rel => exact ⟨k + 1, by omega, by go_num, below_step HJ.out (by rw [HN.out]; exact de)⟩
                case measure => simp [intOf]; omega
            · have HD3 : Hid (firstB (rfB p.st p.re) p.re.length = none) := firstB_none _ _ (fun j hj => HJ.out j (by omega))
              have HK : Hid (∀ m ∈ p.ma, ¬ idx p.st m.name < 0) := by
                intro m hm
                obtain ⟨r, hr, hrn⟩ := HM.out m hm
                obtain ⟨j, hj, hjr⟩ := List.mem_iff_getElem.1 hr
                have h := HJ.out j (by omega)
                rw [rfB_at (x := r) (by rw [List.getElem?_eq_getElem hj, hjr]), hrn] at h
                simpa using h
              clear HJ
              go_wp2_with fail
              go_loop [9] (fun i => ∃ k : Nat, k ≤ p.ma.length ∧ i = .int .i64 k ∧ Hid (∀ j, j < k → mkB p.st p.ma j = false)) (fun i => p.ma.length - (intOf i).toNat)
              case atStart => exact ⟨0, Nat.zero_le _, rfl, fun j hj => by omega⟩
              case round =>
                clear hk hlt
                obtain ⟨k, hk, rfl, HJ⟩ := hrel
                by_cases hlt : (k : Int) < p.ma.length
                · have hlt' : k < p.ma.length := by omega
                  obtain ⟨gg, cc, hv6, hcc⟩ := row_form hp.r6 (by omega)
                  have hvv := E6.out.symm.trans hv6
                  injection hvv with q1 q2 q3
                  subst q1
                  subst q3
                  clear q2
                  obtain ⟨x, hx⟩ : ∃ x, p.ma[k]? = some x := ⟨_, List.getElem?_eq_getElem hlt'⟩
                  obtain ⟨x0, x1⟩ := hp.maCell hv6 hx
                  obtain ⟨y, z, hy1, hy2, hy3, -⟩ := idx_some p.st x.name (by have := HK.out x (List.mem_of_getElem? hx); omega)
                  have hyl : y < p.st.length := (List.getElem?_eq_some_iff.1 hy2).1
                  have HN : Hid _ := mkB_at (st := p.st) hx
                  have HA : Hid _ := rfAt_at hx
                  obtain ⟨g3, cc3, hv3, hcc3⟩ := row_form hp.r3 (by omega)
                  have hvv := E3.out.symm.trans hv3
                  injection hvv with q1 q2 q3
                  subst q1
                  subst q3
                  clear q2
                  obtain ⟨-, -, -, z4⟩ := hp.stCells hv3 hy2
                  have hr3 := hp.r3
                  rw [hv3] at hr3
                  have HR : Hid _ := hr3
                  have HY : Hid _ := hy1
                  have HY3 : Hid _ := hy3
                  have hyl' : (y : Int) < p.st.length := by omega
                  clear hx hv6 hr3 hv3 hy1 hy2 hy3
                  by_cases e : z.kind = 1
                  · have de : ((z.kind : Int) != 1) = false := by simp; omega
                    go_wp2_with fail
                    refine (index_any _ b 3 _ p.st x.name c3 HR.out h1).mono ?_
                    rintro e' w' ⟨rfl, rfl⟩
                    rw [HY.out]
                    go_wp2_with fail
                    go_round
                    case rel => exact ⟨k + 1, by omega, by go_num, below_step HJ.out (by rw [HN.out, HY3.out, e]; rfl)⟩
                    case measure => simp [intOf]; omega
                  · have HF : Hid (flt p.st p.re p.ma = (6, x.at_)) := by
                      show _ = _
                      rw [flt6 HD1.out HD2.out HD3.out (firstB_some (mkB p.st p.ma) k (by rw [HN.out, HY3.out]; simpa using e) HJ.out p.ma.length hlt'), HA.out]
                    have de : ((z.kind : Int) != 1) = true := by simp; omega
                    go_wp2_with fail
                    refine (index_any _ b 3 _ p.st x.name c3 HR.out h1).mono ?_
                    rintro e' w' ⟨rfl, rfl⟩
                    rw [HY.out]
                    go_wp2_with fail
                    go_big_quiet (fail)
                    go_wp2_with fail
                    go_ret2
                    exact ⟨ret2 HF.out rfl rfl, _, rfl⟩
                · have HF : Hid (flt p.st p.re p.ma = (0, 0)) := flt0 HD1.out HD2.out HD3.out (firstB_none _ _ (fun j hj => HJ.out j (by omega)))
                  go_wp2_with fail
                  go_ret2
                  exact ⟨ret2 HF.out rfl rfl, 0, rfl⟩
end Go.Proofs.YtmolmbeeoecnfaaGreatDoor
