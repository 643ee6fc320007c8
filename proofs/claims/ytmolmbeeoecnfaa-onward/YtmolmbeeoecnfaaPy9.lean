/- Own work: walks of the player: calledFrom. -/
import Derived.Test.YtmolmbeeoecnfaaPy8
namespace Go.Proofs.Ytmolmbeeoecnfaa
open Go.RowKit Go.BigFrame
set_option linter.unusedVariables false
set_option linter.unusedSimpArgs false

def cfF (st : List StP) (th : List TrH) (act : List Bool) (ev : UInt8) : Nat → Int → Int
  | 0, _ => -1
  | f + 1, s => if s = -1 then -1 else if fpo th act s.toNat ev ≠ -1 then fpo th act s.toNat ev else cfF st th act ev f (outAt st s.toNat)
def cfO (st : List StP) (th : List TrH) (act : List Bool) (ev : UInt8) (s : Nat) : Int := cfF st th act ev (st.length + 1) s
theorem fpo_bd (th : List TrH) (act : List Bool) (s : Nat) (ev : UInt8) : -1 ≤ fpo th act s ev ∧ fpo th act s ev < (th.length : Int) := by
  unfold fpo
  rcases firstB_spec (posB th act s ev) th.length with ⟨h, _⟩ | ⟨k, h, hk, _⟩ <;> rw [h] <;> simp only <;> omega
theorem cfF_bd (st : List StP) (th : List TrH) (act : List Bool) (ev : UInt8) : ∀ f s, -1 ≤ cfF st th act ev f s ∧ cfF st th act ev f s < (th.length : Int)
  | 0, s => by simp [cfF]; omega
  | f + 1, s => by
    unfold cfF
    split
    · omega
    · split
      · exact fpo_bd _ _ _ _
      · exact cfF_bd st th act ev f _

set_option maxRecDepth 100000 in
set_option maxHeartbeats 1000000 in
theorem calledFrom_any (w : World) (b : Nat) (st : List StP) (ws : Ws) (p : Py) (vo : Value) (s0 : Nat) (ev : UInt8) (hwf : Wf st) (hp : PyV w b st ws p vo) (ht : ThOk st ws.th) (hl : ws.th.length ≤ 1000000) (hs : s0 < st.length) :
    Calls Try.prog 73 #[.pointer (some ⟨b, 0, none⟩), .int .i64 s0, .int .u8 ev.toNat] w fun e w' => e = .returned (.int .i64 (cfO st ws.th p.act ev s0)) ∧ Fr (fun _ => False) w w' := by
  obtain ⟨gg, cc, hv3, hcc, hgl⟩ := row_gg hp.pl (by omega)
  have HV : Hid (ws.v2 = .slice (some ⟨gg, 0, none⟩) st.length cc) := hv3
  have HP : Hid (PyV w b st ws p vo) := hp
  have HT : Hid (ThOk st ws.th) := ht
  have HW : Hid (Wf st) := hwf
  clear hv3 hp ht hwf
  go_enter Try.func73, Try.ntmps73
  go_wp2_with fail
  go_loopw [1] (fun i wr => ∃ s : Int, ∃ f : Nat, -1 ≤ s ∧ s < st.length ∧ s + 1 ≤ f ∧ i = .int .i64 s ∧ Hid (cfF st ws.th p.act ev (f + 1) s = cfO st ws.th p.act ev s0) ∧ Fr (fun _ => False) w wr) (fun i _ => (intOf i + 1).toNat)
  case atStart => exact ⟨s0, st.length, by omega, by omega, by omega, rfl, rfl, Fr.refl _ _⟩
  case round =>
    obtain ⟨s, f, hs1, hs2, hf, rfl, HS, hfr⟩ := hrel
    by_cases e : s = -1
    · have HI : Hid (cfO st ws.th p.act ev s0 = -1) := by show _ = _; rw [← HS.out, cfF, if_pos e]
      subst e
      go_wp2_with fail
      go_ret
      exact ⟨ret_i64 HI.out.symm, hfr⟩
    · obtain ⟨k, rfl⟩ : ∃ k : Nat, s = k := ⟨s.toNat, by omega⟩
      have hks : k < st.length := by omega
      have hpr := HP.out.fr0 hfr
      have hkn : (k : Int).toNat = k := by omega
      have he1 : ((k : Int) == -1) = false := by rw [beq_eq_false_iff_ne]; omega
      go_wp2_with fail
      refine (firstPossible_any wr b st ws p vo k ev hpr HT.out hl).mono ?_
      rintro e' w2 ⟨rfl, hf2⟩
      have hfr2 := hfr.thenr hf2 (fun _ _ h => h)
      have hpr2 := HP.out.fr0 hfr2
      have hbd := fpo_bd ws.th p.act k ev
      by_cases h1 : fpo ws.th p.act k ev = -1
      · obtain ⟨x, hx⟩ : ∃ x, st[k]? = some x := ⟨_, List.getElem?_eq_getElem hks⟩
        have hr2 := hpr2.pl.r2
        rw [HV.out] at hr2
        obtain ⟨-, -, -, -, x4, -⟩ := st10 hr2 hx
        have c0 := hpr2.c0
        rw [HV.out] at c0
        have hxo := HW.out.ou k x hx
        have HI : Hid (cfF st ws.th p.act ev f x.outer = cfO st ws.th p.act ev s0) := by
          show _ = _; rw [← HS.out, cfF, if_neg e, if_neg (by rw [hkn]; exact fun h => h h1), hkn, outAt_at hx]
        rw [h1]
        clear hx hr2 hpr2 hpr
        go_wp2_with fail
        go_roundw
        case rel => exact ⟨x.outer, f - 1, by omega, by omega, by omega, rfl, by show _ = _; rw [show f - 1 + 1 = f by omega]; exact HI.out, hfr2⟩
        case measure => simp [intOf]; omega
      · have hb1 : (fpo ws.th p.act k ev != -1) = true := by simpa using h1
        have hb2 : (fpo ws.th p.act k ev == -1) = false := by simpa using h1
        have HI : Hid (cfO st ws.th p.act ev s0 = fpo ws.th p.act k ev) := by
          show _ = _; rw [← HS.out, cfF, if_neg e, hkn, if_pos h1]
        clear hpr hpr2
        go_wp2_with fail
        go_ret
        exact ⟨ret_i64 HI.out.symm, hfr2⟩
end Go.Proofs.Ytmolmbeeoecnfaa
