/- Own work: walks of the player: hold, isAmong, firstPossible, calledFrom. -/
import Derived.Test.YtmolmbeeoecnfaaPy6
namespace Go.Proofs.Ytmolmbeeoecnfaa
open Go.RowKit Go.BigFrame
set_option linter.unusedVariables false
set_option linter.unusedSimpArgs false

def CdOn (cs : List CdP) : Prop := ∀ c ∈ cs, 0 ≤ c.state ∧ c.state < 26
def fails (act : List Bool) (cs : List CdP) (k : Nat) : Bool := match cs[k]? with | some c => mem act c.state.toNat != c.active | none => false
def holdB (act : List Bool) (cs : List CdP) : Bool := (firstB (fails act cs) cs.length).isNone

set_option maxRecDepth 100000 in
set_option maxHeartbeats 1000000 in
theorem hold_any (w : World) (b : Nat) (st : List StP) (ws : Ws) (p : Py) (vo : Value) (cv : Value) (cs : List CdP) (hp : PyV w b st ws p vo) (hc : w.ownsRow 0 153 4 cv cs.length (cs.flatMap CdP.cells)) (hs : CdOn cs) (hl : cs.length ≤ 1000000) :
    Calls Try.prog 114 #[.pointer (some ⟨b, 0, none⟩), cv] w fun e w' => e = .returned (.bool (holdB p.act cs)) ∧ Fr (fun _ => False) w w' := by
  obtain ⟨va, vc, hv⟩ := row_len hc
  have HV : Hid _ := hv
  have HC : Hid _ := hc
  have HP : Hid (PyV w b st ws p vo) := hp
  have HS : Hid (CdOn cs) := hs
  rw [hv]
  clear hv hc hp hs
  go_enter Try.func114, Try.ntmps114
  go_wp2_with fail
  go_loopw [9] (fun i wr => ∃ k : Nat, k ≤ cs.length ∧ i = .int .i64 k ∧ Hid (∀ j, j < k → fails p.act cs j = false) ∧ Fr (fun _ => False) w wr) (fun i _ => cs.length - (intOf i).toNat)
  case atStart => exact ⟨0, Nat.zero_le _, rfl, fun j hj => by omega, Fr.refl _ _⟩
  case round =>
    obtain ⟨k, hk, rfl, HJ, hfr⟩ := hrel
    by_cases hlt : (k : Int) < cs.length
    · have hlt' : k < cs.length := by omega
      obtain ⟨gg, cc, hv3, hcc⟩ := row_form HC.out (by omega)
      have hvv := HV.out.symm.trans hv3
      injection hvv with q1 q2 q3
      subst q1
      subst q3
      clear q2
      obtain ⟨x, hx⟩ : ∃ x, cs[k]? = some x := ⟨_, List.getElem?_eq_getElem hlt'⟩
      have hr := row_fr HC.out hfr (fun _ _ h => h)
      rw [hv3] at hr
      have key : ∀ o v, o < 4 → x.cells[o]? = some v → wr.cell? ⟨gg, k * 4 + o, none⟩ = some v := fun o v ho hv =>
        (row_cell hr (k * 4 + o) v (by rw [flat_get CdP.cells 4 CdP.len cs k o x hx ho]; exact hv)).1
      have x0 := key 0 _ (by omega) rfl
      have x1 := key 1 _ (by omega) rfl
      have x2 := key 2 _ (by omega) rfl
      have x3 := key 3 _ (by omega) rfl
      rw [Nat.add_zero] at x0
      have hxs := HS.out x (List.mem_of_getElem? hx)
      have HF : Hid (fails p.act cs k = (mem p.act x.state.toNat != x.active)) := by show _ = _; simp [fails, hx]
      obtain ⟨n, hn⟩ : ∃ n : Nat, x.state = n := ⟨x.state.toNat, by omega⟩
      have HN : Hid (x.state.toNat = n) := by show _ = _; omega
      have hn26 : n < 26 := by omega
      rw [hn] at x2
      have hpa := (HP.out.fr0 hfr).fr0 (Fr.alloc _ wr (.cells #[.int .u8 x.name.toNat, .int .i64 x.place, .int .i64 n, .bool x.active] 153))
      have ca := hpa.ca n hn26
      clear key hr hv3 hx hpa
      cases h1 : mem p.act n <;> cases h2 : x.active
      · have HG : Hid (fails p.act cs k = false) := by show _ = _; rw [HF.out, HN.out, h1, h2]; rfl
        rw [h2] at x3 ca
        rw [h1] at ca
        go_wp2_with fail
        go_big_quiet (fail)
        go_wp2_with fail
        go_roundw
        case rel => exact ⟨k + 1, by omega, by go_num, below_step HJ.out HG.out, by (repeat (first | exact Fr.refl _ _ | assumption | refine Fr.drewNr ?_ _ | refine Fr.drewr ?_ | refine Fr.allocr ?_ _ | refine Fr.setCellr ?_ _ _ (by first | exact Or.inl rfl | (right; simp; done) | (right; simp; omega))))⟩
        case measure => simp [intOf]; omega
      · have HG : Hid (holdB p.act cs = false) := by
          show _ = _
          rw [holdB, firstB_some (fails p.act cs) k (by rw [HF.out, HN.out, h1, h2]; rfl) HJ.out _ hlt']; rfl
        rw [h2] at x3 ca
        rw [h1] at ca
        go_wp2_with fail
        go_big_quiet (fail)
        go_wp2_with fail
        go_ret
        exact ⟨ret_b HG.out.symm, by (repeat (first | exact Fr.refl _ _ | assumption | refine Fr.drewNr ?_ _ | refine Fr.drewr ?_ | refine Fr.allocr ?_ _ | refine Fr.setCellr ?_ _ _ (by first | exact Or.inl rfl | (right; simp; done) | (right; simp; omega))))⟩
      · have HG : Hid (holdB p.act cs = false) := by
          show _ = _
          rw [holdB, firstB_some (fails p.act cs) k (by rw [HF.out, HN.out, h1, h2]; rfl) HJ.out _ hlt']; rfl
        rw [h2] at x3 ca
        rw [h1] at ca
        go_wp2_with fail
        go_big_quiet (fail)
        go_wp2_with fail
        go_ret
        exact ⟨ret_b HG.out.symm, by (repeat (first | exact Fr.refl _ _ | assumption | refine Fr.drewNr ?_ _ | refine Fr.drewr ?_ | refine Fr.allocr ?_ _ | refine Fr.setCellr ?_ _ _ (by first | exact Or.inl rfl | (right; simp; done) | (right; simp; omega))))⟩
      · have HG : Hid (fails p.act cs k = false) := by show _ = _; rw [HF.out, HN.out, h1, h2]; rfl
        rw [h2] at x3 ca
        rw [h1] at ca
        go_wp2_with fail
        go_big_quiet (fail)
        go_wp2_with fail
        go_roundw
        case rel => exact ⟨k + 1, by omega, by go_num, below_step HJ.out HG.out, by (repeat (first | exact Fr.refl _ _ | assumption | refine Fr.drewNr ?_ _ | refine Fr.drewr ?_ | refine Fr.allocr ?_ _ | refine Fr.setCellr ?_ _ _ (by first | exact Or.inl rfl | (right; simp; done) | (right; simp; omega))))⟩
        case measure => simp [intOf]; omega
    · have HG : Hid (holdB p.act cs = true) := by
        show _ = _
        rw [holdB, firstB_none (fails p.act cs) _ (fun j hj => HJ.out j (by omega))]; rfl
      go_wp2_with fail
      go_ret
      exact ⟨ret_b HG.out.symm, hfr⟩
end Go.Proofs.Ytmolmbeeoecnfaa
