/- Own work: the walks of the document's chart: index. -/
import Derived.Test.YtmolmbeeoecnfaaPen5
import Derived.Test.YtmolmbeeoecnfaaFind
namespace Go.Proofs.Ytmolmbeeoecnfaa
open Go.RowKit Go.BigFrame
set_option linter.unusedVariables false
set_option linter.unusedSimpArgs false

/-- State k has that name. -/
def isNm (st : List StR) (c : UInt8) (k : Nat) : Bool := match st[k]? with | some x => x.name == c | none => false
/-- Which state has that name; -1: none. -/
def idx (st : List StR) (c : UInt8) : Int := match firstB (isNm st c) st.length with | some k => k | none => -1

theorem isNm_at {st : List StR} {k : Nat} {x : StR} (h : st[k]? = some x) (c : UInt8) : isNm st c k = (x.name == c) := by simp [isNm, h]

set_option maxRecDepth 100000 in
set_option maxHeartbeats 400000 in
theorem index_any (w : World) (b o : Nat) (v3 : Value) (st : List StR) (c : UInt8) (hc : w.cell? ⟨b, o, none⟩ = some v3) (hr : w.ownsRow 0 47 8 v3 st.length (st.flatMap StR.cells)) (hl : st.length ≤ 1000000) :
    Calls Try.prog 62 #[.pointer (some ⟨b, o, none⟩), .int .u8 c.toNat] w fun e w' => e = .returned (.int .i64 (idx st c)) ∧ w' = w := by
  obtain ⟨va, vc, hv⟩ := row_len hr
  subst hv
  go_enter Try.func62, Try.ntmps62
  go_wp2_with fail
  go_loop [5] (fun i => ∃ k : Nat, k ≤ st.length ∧ i = .int .i64 k ∧ Hid (∀ j, j < k → isNm st c j = false)) (fun i => st.length - (intOf i).toNat)
  case atStart => exact ⟨0, Nat.zero_le _, rfl, fun j hj => by omega⟩
  case round =>
    obtain ⟨k, hk, rfl, HJ⟩ := hrel
    by_cases hlt : (k : Int) < st.length
    · have hlt' : k < st.length := by omega
      obtain ⟨gg, cc, hv3, hcc⟩ := row_form hr (by omega)
      injection hv3 with e1 e2 e3
      subst e1
      subst e3
      obtain ⟨x, hx⟩ : ∃ x, st[k]? = some x := ⟨_, List.getElem?_eq_getElem hlt'⟩
      have hcell := (row_cell hr (k * 8 + 0) (.int .u8 x.name.toNat) (by rw [flat_get StR.cells 8 StR.len st k 0 x hx (by omega)]; rfl)).1
      rw [Nat.add_zero] at hcell
      have HN : Hid _ := isNm_at hx c
      clear hx e2
      by_cases e : x.name = c
      · have HI : Hid (idx st c = k) := by
          show _ = _
          rw [idx, firstB_some (isNm st c) k (by rw [HN.out]; simp [e]) HJ.out st.length hlt']
        subst e
        go_wp2_with fail
        go_ret
        exact ⟨by rw [HI.out]; rfl, rfl⟩
      · have hne : ((x.name.toNat : Int) == c.toNat) = false := by
          rw [beq_eq_false_iff_ne]; intro h; exact e (UInt8.toNat_inj.1 (by omega))
        go_wp2_with fail
        go_round
        case rel => exact ⟨k + 1, by omega, by go_num, below_step HJ.out (by rw [HN.out]; simpa using e)⟩
        case measure => simp [intOf]; omega
    · have HI : Hid (idx st c = -1) := by
        show _ = _
        rw [idx, firstB_none (isNm st c) st.length (fun j hj => HJ.out j (by omega))]
      go_wp2_with fail
      go_ret
      exact ⟨by rw [HI.out]; rfl, rfl⟩
end Go.Proofs.Ytmolmbeeoecnfaa
