/- Own work: walks of the program's table: column, cellAt. -/
import Derived.Test.YtmolmbeeoecnfaaTP2
import Derived.Test.YtmolmbeeoecnfaaAppB
namespace Go.Proofs.Ytmolmbeeoecnfaa
open Go.RowKit Go.BigFrame
set_option linter.unusedVariables false
set_option linter.unusedSimpArgs false

def colI (o : Option Nat) : Int := match o with | some k => k | none => -1

set_option maxRecDepth 100000 in
set_option maxHeartbeats 1000000 in
theorem column_any (w : World) (ev bg : ByteArray) (v : Value) (c : UInt8) (hl : ev.size ≤ 1000000) :
    Calls Try.prog 65 #[.agg #[.string ev, .string bg, v], .int .u8 c.toNat] w fun e w' => e = .returned (.int .i64 (colI (colP ev c))) ∧ Fr (fun _ => False) w w' := by
  go_enter Try.func65, Try.ntmps65
  go_wp2_with fail
  go_loopw [5] (fun vi wr => ∃ k : Nat, k ≤ ev.size ∧ vi = .int .i64 k ∧ Hid (∀ j, j < k → colB ev c j = false) ∧ Fr (fun _ => False) w wr ∧ wr.cell? ⟨w.heap.size, 0, none⟩ = some (.string ev)) (fun vi _ => ev.size - (intOf vi).toNat)
  case atStart => exact ⟨0, Nat.zero_le _, rfl, fun j hj => (by omega), by (repeat (first | exact Fr.refl _ _ | assumption | refine Fr.drewNr ?_ _ | refine Fr.drewr ?_ | refine Fr.allocr ?_ _ | refine Fr.setCellr ?_ _ _ (by first | exact Or.inl rfl | (right; simp; done) | (right; simp; omega)))), by simp⟩
  case round =>
    obtain ⟨k, hk, rfl, HJ, hfr, t0⟩ := hrel
    by_cases hlt : (k : Int) < ev.size
    · have hlt' : k < ev.size := by omega
      have HB : Hid (colB ev c k = decide (byte ev k = c)) := rfl
      have HX : Hid (byte ev k = ev[k]) := byte_in ev k hlt'
      by_cases he : byte ev k = c
      · have HC : Hid (colP ev c = some k) := firstB_some (colB ev c) k (by rw [HB.out]; simp [he]) HJ.out _ hlt'
        have he1 : ((ev[k].toNat : Int) == c.toNat) = true := by rw [beq_iff_eq, ← he, HX.out]
        go_wp2_with fail
        first
          | (go_ret
             exact ⟨by rw [HC.out]; rfl, hfr⟩)
          | (go_big_quiet (fail)
             go_wp2_with fail
             go_ret
             exact ⟨by rw [HC.out]; rfl, hfr.drewNr _⟩)
      · have HC : Hid (colB ev c k = false) := by show _ = _; rw [HB.out]; simp [he]
        have he1 : ((ev[k].toNat : Int) == c.toNat) = false := by
          rw [beq_eq_false_iff_ne]; intro h; exact he (by rw [HX.out]; exact UInt8.toNat_inj.1 (by omega))
        go_wp2_with fail
        first
          | (go_roundw
             case rel => exact ⟨k + 1, by omega, by go_num, below_step HJ.out HC.out, hfr, t0⟩
             case measure => simp [intOf]; omega)
          | (go_big_quiet (fail)
             go_wp2_with fail
             go_roundw
             case rel => exact ⟨k + 1, by omega, by go_num, below_step HJ.out HC.out, hfr.drewNr _, t0⟩
             case measure => simp [intOf]; omega)
    · have HC : Hid (colP ev c = none) := firstB_none (colB ev c) _ (fun j hj => HJ.out j (by omega))
      have hlt' : decide (k < ev.size) = false := by simp; omega
      go_wp2_with fail
      go_ret
      exact ⟨by rw [HC.out]; rfl, hfr⟩

set_option maxRecDepth 100000 in
set_option maxHeartbeats 1000000 in
theorem cellAt_any (w : World) (ev bg : ByteArray) (v : Value) (th : List RwH) (hV : TbV w v th) (wd m : Nat) (hok : TbOk (th.map RwH.q) wd m) (n k : Nat) (hn : n < th.length) (hk : k < wd) (hw : wd ≤ 1000000) :
    Calls Try.prog 66 #[.agg #[.string ev, .string bg, v], .int .i64 n, .int .i64 k] w fun e w' => e = .returned (.agg #[.int .i64 (cellOf (th.map RwH.q) n k).dst, .string (cellOf (th.map RwH.q) n k).acts]) ∧ Fr (fun _ => False) w w' := by
  obtain ⟨gg, cc, hv, hcc⟩ := row_form hV.r (by omega)
  subst hv
  have hn' : (n : Int) < th.length := by omega
  have hgl : gg < w.heap.size := (hV.r.lt gg rfl).2
  have key : ∀ k (x : RwH), th[k]? = some x → ∀ o v, o < 4 → x.pcells[o]? = some v → w.cell? ⟨gg, k * 4 + o, none⟩ = some v := fun k x hx o v ho hv =>
    (row_cell hV.r (k * 4 + o) v (by rw [flat_get RwH.pcells 4 RwH.plen th k o x hx ho]; exact hv)).1
  obtain ⟨y, hy⟩ : ∃ y, th[n]? = some y := ⟨_, List.getElem?_eq_getElem hn⟩
  have x0 := key n y hy 0 _ (by omega) rfl
  have x1 := key n y hy 1 _ (by omega) rfl
  have x2 := key n y hy 2 _ (by omega) rfl
  have x3 := key n y hy 3 _ (by omega) rfl
  rw [Nat.add_zero] at x0
  have hyR : (th.map RwH.q)[n]? = some y.q := by simp [hy]
  have hcell := hok.cell (n := n) (k := k) (by simpa using hn) hk
  have hle := hok.le
  rw [List.length_map] at hle
  have hmin : min (cellOf (th.map RwH.q) n k).dst 99 = (cellOf (th.map RwH.q) n k).dst := by have := hcell.2.1; rw [List.length_map] at this; omega
  rcases hok.row n y.q hyR with ⟨h1, h2, x, h3, h4⟩ | ⟨h1, h2, h3⟩
  · obtain ⟨mm, hmm⟩ : ∃ mm : Nat, y.q.same = mm := ⟨y.q.same.toNat, by omega⟩
    rw [hmm, Int.toNat_natCast] at h3
    obtain ⟨z, hz, hzq⟩ : ∃ z, th[mm]? = some z ∧ z.q = x := by
      rw [List.getElem?_map] at h3
      cases hz : th[mm]? with
      | none => rw [hz] at h3; cases h3
      | some z => rw [hz] at h3; exact ⟨z, rfl, by simpa using h3⟩
    subst hzq
    have hml : mm < th.length := (List.getElem?_eq_some_iff.1 hz).1
    have hml' : (mm : Int) < th.length := by omega
    have hcs : cellsOf (th.map RwH.q) n = z.q.cells := by unfold cellsOf; rw [hyR]; simp only; rw [if_pos h1, hmm, Int.toNat_natCast, h3]
    rw [hcs] at hcell
    have hzl : z.q.cells.length = wd := by
      rcases hok.row mm z.q h3 with ⟨h5, -⟩ | ⟨-, h6, -⟩
      · omega
      · exact h6
    have u0 := key mm z hz 0 _ (by omega) rfl
    have u1 := key mm z hz 1 _ (by omega) rfl
    have u2 := key mm z hz 2 _ (by omega) rfl
    have u3 := key mm z hz 3 _ (by omega) rfl
    rw [Nat.add_zero] at u0
    have hrc := hV.rc z (List.mem_of_getElem? hz)
    obtain ⟨ge, ce, hcv, -⟩ := row_form hrc (by omega)
    obtain ⟨ya, yc, hyv⟩ := row_len (hV.rc y (List.mem_of_getElem? hy))
    rw [hyv] at x3
    rw [hcv] at hrc u3
    have e0 := (row_cell hrc (k * 2 + 0) _ (by rw [flat_get clQ 2 clQ_len _ k 0 _ hcell.1 (by omega)]; rfl)).1
    have e1 := (row_cell hrc (k * 2 + 1) _ (by rw [flat_get clQ 2 clQ_len _ k 1 _ hcell.1 (by omega)]; rfl)).1
    rw [Nat.add_zero, hmin] at e0
    have hgel : ge < w.heap.size := (hrc.lt ge rfl).2
    have hsm : smQ y.q.same = mm := by rw [smQ, if_neg (by omega)]; omega
    rw [hsm] at x2
    have hsz : smQ z.q.same = -1 := by rw [h4]; rfl
    rw [hsz] at u2
    have hnm : ((mm : Int) != -1) = true := by rw [bne_iff_ne]; omega
    have hkl : (k : Int) < z.q.cells.length := by omega
    generalize cellOf (th.map RwH.q) n k = cx at *
    clear hcell hmin hcs hrc key hyR hy hok hV h3 hsm h2 hmm h4 hz hsz hzl h1
    have hg1 : ge < w.heap.size + 1 := by omega
    have hg2 : ge < w.heap.size + 1 + 1 := by omega
    have hg3 : gg < w.heap.size + 1 := by omega
    have hg4 : gg < w.heap.size + 1 + 1 := by omega
    go_enter Try.func66, Try.ntmps66
    go_wp2_with fail
    refine bodyPost_ret (v := .agg #[.int .i64 cx.dst, .string cx.acts]) (by simp [results, Try.results66, go_sem]) rfl ⟨rfl, by (repeat (first | exact Fr.refl _ _ | assumption | refine Fr.drewNr ?_ _ | refine Fr.drewr ?_ | refine Fr.allocr ?_ _ | refine Fr.setCellr ?_ _ _ (by first | exact Or.inl rfl | (right; simp; done) | (right; simp; omega))))⟩
  · have hcs : cellsOf (th.map RwH.q) n = y.q.cells := by unfold cellsOf; rw [hyR]; simp only; rw [if_neg (by omega)]
    rw [hcs] at hcell
    have hrc := hV.rc y (List.mem_of_getElem? hy)
    obtain ⟨ge, ce, hcv, -⟩ := row_form hrc (by omega)
    rw [hcv] at hrc x3
    have e0 := (row_cell hrc (k * 2 + 0) _ (by rw [flat_get clQ 2 clQ_len _ k 0 _ hcell.1 (by omega)]; rfl)).1
    have e1 := (row_cell hrc (k * 2 + 1) _ (by rw [flat_get clQ 2 clQ_len _ k 1 _ hcell.1 (by omega)]; rfl)).1
    rw [Nat.add_zero, hmin] at e0
    have hgel : ge < w.heap.size := (hrc.lt ge rfl).2
    have hsm : smQ y.q.same = -1 := by rw [h1]; rfl
    rw [hsm] at x2
    have hkl : (k : Int) < y.q.cells.length := by omega
    generalize cellOf (th.map RwH.q) n k = cx at *
    clear hcell hmin hcs hrc key hyR hy hok hV h3 hsm h2
    have hg1 : ge < w.heap.size + 1 := by omega
    have hg2 : ge < w.heap.size + 1 + 1 := by omega
    go_enter Try.func66, Try.ntmps66
    go_wp2_with fail
    refine bodyPost_ret (v := .agg #[.int .i64 cx.dst, .string cx.acts]) (by simp [results, Try.results66, go_sem]) rfl ⟨rfl, by (repeat (first | exact Fr.refl _ _ | assumption | refine Fr.drewNr ?_ _ | refine Fr.drewr ?_ | refine Fr.allocr ?_ _ | refine Fr.setCellr ?_ _ _ (by first | exact Or.inl rfl | (right; simp; done) | (right; simp; omega))))⟩
end Go.Proofs.Ytmolmbeeoecnfaa
