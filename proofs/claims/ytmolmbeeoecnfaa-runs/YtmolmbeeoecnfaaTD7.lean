/- Own work: walks of the document's table: Cells. -/
import Derived.Test.YtmolmbeeoecnfaaTP2
namespace Go.Proofs.Ytmolmbeeoecnfaa
open Go.RowKit Go.BigFrame
set_option linter.unusedVariables false
set_option linter.unusedSimpArgs false

set_option maxRecDepth 100000 in
set_option maxHeartbeats 1000000 in
theorem cells_any (w : World) (tb : Nat) (ev bg : ByteArray) (v : Value) (th : List RwH) (hT : Blk w tb #[.string ev, .string bg, v] 58) (hV : DTbV w v th) (wd m : Nat) (hok : TbOk (th.map RwH.q) wd m) (n : Nat) (hn : n < th.length) :
    Calls Try.prog 29 #[.pointer (some ⟨tb, 0, none⟩), .int .i64 n] w fun e w' => Fr (fun _ => False) w w' ∧ ∃ ca cc, e = .returned (.slice ca wd cc) ∧ w.ownsRow 0 64 2 (.slice ca wd cc) wd ((cellsOf (th.map RwH.q) n).flatMap clD) := by
  obtain ⟨gg, cc, hv, hcc⟩ := row_form hV.r (by omega)
  subst hv
  have hn' : (n : Int) < th.length := by omega
  have key : ∀ k (x : RwH), th[k]? = some x → ∀ o v, o < 4 → x.dcells[o]? = some v → w.cell? ⟨gg, k * 4 + o, none⟩ = some v := fun k x hx o v ho hv =>
    (row_cell hV.r (k * 4 + o) v (by rw [flat_get RwH.dcells 4 RwH.dlen th k o x hx ho]; exact hv)).1
  obtain ⟨y, hy⟩ : ∃ y, th[n]? = some y := ⟨_, List.getElem?_eq_getElem hn⟩
  have x1 := key n y hy 1 _ (by omega) rfl
  have x2 := key n y hy 2 _ (by omega) rfl
  have t2 : w.cell? ⟨tb, 2, none⟩ = some (.slice (some ⟨gg, 0, none⟩) th.length cc) := by rw [Blk.cell hT]; rfl
  have hyR : (th.map RwH.q)[n]? = some y.q := by simp [hy]
  rcases hok.row n y.q hyR with ⟨h1, h2, x, h3, h4⟩ | ⟨h1, h2, h3⟩
  · obtain ⟨mm, hmm⟩ : ∃ mm : Nat, y.q.same = mm := ⟨y.q.same.toNat, by omega⟩
    rw [hmm, Int.toNat_natCast] at h3
    obtain ⟨z, hz, hzq⟩ : ∃ z, th[mm]? = some z ∧ z.q = x := by
      rw [List.getElem?_map] at h3
      cases hz : th[mm]? with
      | none => rw [hz] at h3; cases h3
      | some z => rw [hz] at h3; exact ⟨z, rfl, by simpa using h3⟩
    subst hzq
    have hml : mm < th.length := (List.getElem?_eq_some_iff.1 hz).1
    have hml' : (mm : Int) < th.length := by omega
    have hcs : cellsOf (th.map RwH.q) n = z.q.cells := by unfold cellsOf; rw [hyR]; simp only; rw [if_pos h1, hmm, Int.toNat_natCast, h3]
    have hzl : z.q.cells.length = wd := by
      rcases hok.row mm z.q h3 with ⟨h5, -⟩ | ⟨-, h6, -⟩
      · omega
      · exact h6
    have u2 := key mm z hz 2 _ (by omega) rfl
    have hrc := hV.rc z (List.mem_of_getElem? hz)
    rw [hzl] at hrc
    obtain ⟨ca, ce, hcv⟩ := row_len hrc
    rw [hcv] at hrc u2
    rw [hmm] at x1
    have HC : Hid (w.ownsRow 0 64 2 (.slice ca wd ce) wd ((cellsOf (th.map RwH.q) n).flatMap clD)) := by rw [hcs]; exact hrc
    obtain ⟨ya, yc, hyv⟩ := row_len (hV.rc y (List.mem_of_getElem? hy))
    rw [hyv] at x2
    clear hrc hcs hzl key hyR hy hok hV h3 h2 hmm h4 hz h1 hT hcv hyv
    go_enter Try.func29, Try.ntmps29
    go_wp2_with fail
    first
      | (go_ret
         exact ⟨by (repeat (first | exact Fr.refl _ _ | assumption | refine Fr.drewNr ?_ _ | refine Fr.drewr ?_ | refine Fr.allocr ?_ _ | refine Fr.setCellr ?_ _ _ (by first | exact Or.inl rfl | (right; simp; done) | (right; simp; omega)))), ca, ce, rfl, HC.out⟩)
      | (go_big_quiet (fail)
         go_wp2_with fail
         go_ret
         exact ⟨by (repeat (first | exact Fr.refl _ _ | assumption | refine Fr.drewNr ?_ _ | refine Fr.drewr ?_ | refine Fr.allocr ?_ _ | refine Fr.setCellr ?_ _ _ (by first | exact Or.inl rfl | (right; simp; done) | (right; simp; omega)))), ca, ce, rfl, HC.out⟩)
      | (go_big_quiet (fail)
         go_wp2_with fail
         go_big_quiet (fail)
         go_wp2_with fail
         go_ret
         exact ⟨by (repeat (first | exact Fr.refl _ _ | assumption | refine Fr.drewNr ?_ _ | refine Fr.drewr ?_ | refine Fr.allocr ?_ _ | refine Fr.setCellr ?_ _ _ (by first | exact Or.inl rfl | (right; simp; done) | (right; simp; omega)))), ca, ce, rfl, HC.out⟩)
  · have hcs : cellsOf (th.map RwH.q) n = y.q.cells := by unfold cellsOf; rw [hyR]; simp only; rw [if_neg (by omega)]
    have hrc := hV.rc y (List.mem_of_getElem? hy)
    rw [h2] at hrc
    obtain ⟨ca, ce, hcv⟩ := row_len hrc
    rw [hcv] at hrc x2
    rw [h1] at x1
    have HC : Hid (w.ownsRow 0 64 2 (.slice ca wd ce) wd ((cellsOf (th.map RwH.q) n).flatMap clD)) := by rw [hcs]; exact hrc
    clear hrc hcs key hyR hy hok hV h3 h2 h1 hT hcv
    go_enter Try.func29, Try.ntmps29
    go_wp2_with fail
    first
      | (go_ret
         exact ⟨by (repeat (first | exact Fr.refl _ _ | assumption | refine Fr.drewNr ?_ _ | refine Fr.drewr ?_ | refine Fr.allocr ?_ _ | refine Fr.setCellr ?_ _ _ (by first | exact Or.inl rfl | (right; simp; done) | (right; simp; omega)))), ca, ce, rfl, HC.out⟩)
      | (go_big_quiet (fail)
         go_wp2_with fail
         go_ret
         exact ⟨by (repeat (first | exact Fr.refl _ _ | assumption | refine Fr.drewNr ?_ _ | refine Fr.drewr ?_ | refine Fr.allocr ?_ _ | refine Fr.setCellr ?_ _ _ (by first | exact Or.inl rfl | (right; simp; done) | (right; simp; omega)))), ca, ce, rfl, HC.out⟩)
end Go.Proofs.Ytmolmbeeoecnfaa
