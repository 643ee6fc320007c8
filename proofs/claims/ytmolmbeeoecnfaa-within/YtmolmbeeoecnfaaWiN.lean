/- Own work: the walk of the law's 'names'. -/
import Derived.Test.YtmolmbeeoecnfaaLgW
namespace Go.Proofs.Ytmolmbeeoecnfaa
open Go.RowKit Go.BigFrame
set_option linter.unusedVariables false
set_option linter.unusedSimpArgs false

def nmS (sts : List StR) (k : Nat) : ByteArray := ⟨((sts.take k).map StR.name).toArray⟩
theorem nmS_succ (sts : List StR) (k : Nat) (x : StR) (hx : sts[k]? = some x) : nmS sts (k + 1) = nmS sts k ++ ⟨#[x.name]⟩ := by
  obtain ⟨h1, h2⟩ := List.getElem?_eq_some_iff.1 hx
  unfold nmS
  rw [List.take_succ_eq_append_getElem h1, h2]
  apply ByteArray.ext
  rw [ByteArray.data_append]
  apply Array.toList_inj.1
  simp
theorem nmS_size (sts : List StR) (k : Nat) : (nmS sts k).size ≤ k := by
  have h : (nmS sts k).size = ((sts.take k).map StR.name).length := rfl
  rw [h, List.length_map]
  exact List.length_take_le _ _
set_option maxRecDepth 100000 in
set_option maxHeartbeats 1000000 in
theorem lawNames_any (w : World) (a3 a4 a5 a6 : Option Addr) (c3 n4 c4 n5 c5 n6 c6 : Nat) (sts : List StR) (hr : w.ownsRow 0 47 8 (.slice a3 sts.length c3) sts.length (sts.flatMap StR.cells)) (hl : sts.length ≤ 1000) :
    Calls Try.prog 23 #[.agg #[.slice a3 sts.length c3, .slice a4 n4 c4, .slice a5 n5 c5, .slice a6 n6 c6]] w fun e w' => e = .returned (.string (nmS sts sts.length)) ∧ Fr (fun _ => False) w w' := by
  have hbk := Blk.new w #[.slice a3 sts.length c3, .slice a4 n4 c4, .slice a5 n5 c5, .slice a6 n6 c6] 39
  have hr0 := row_fr hr (Fr.alloc (fun _ => False) w (.cells #[.slice a3 sts.length c3, .slice a4 n4 c4, .slice a5 n5 c5, .slice a6 n6 c6] 39)) (fun _ _ h => h)
  have hfa := (Fr.refl (fun _ => False) w).allocr (.cells #[.slice a3 sts.length c3, .slice a4 n4 c4, .slice a5 n5 c5, .slice a6 n6 c6] 39)
  go_enter Try.func23, Try.ntmps23
  go_wp2_with fail
  generalize w.alloc (.cells #[.slice a3 sts.length c3, .slice a4 n4 c4, .slice a5 n5 c5, .slice a6 n6 c6] 39) = W at hbk hr0 hfa ⊢
  generalize w.heap.size = cb at hbk ⊢
  clear hr
  go_loopw [3, 4] (fun vs vk wr => ∃ k : Nat, k ≤ sts.length ∧ vk = .int .i64 k ∧ vs = .string (nmS sts k) ∧ Fr (fun _ => False) W wr) (fun _ vk _ => sts.length - (intOf vk).toNat)
  case atStart => exact ⟨0, Nat.zero_le _, rfl, rfl, Fr.refl _ _⟩
  case round =>
    obtain ⟨k, hk, rfl, rfl, hfr⟩ := hrel
    have hbi := Blk.fr hbk hfr (fun h => h)
    have hri := row_fr hr0 hfr (fun _ _ h => h)
    have hfw := hfa.thenr hfr (fun _ _ h => h)
    have q0 : wr.cell? ⟨cb, 0, none⟩ = some (.slice a3 sts.length c3) := by rw [Blk.cell hbi]; rfl
    have hsz := nmS_size sts k
    by_cases hlt : (k : Int) < sts.length
    · have hlt' : k < sts.length := by omega
      obtain ⟨gg, cc, hv3, hcc⟩ := row_form hri (by omega)
      injection hv3 with e1 e2 e3
      subst e1
      subst e3
      obtain ⟨x, hx⟩ : ∃ x, sts[k]? = some x := ⟨_, List.getElem?_eq_getElem hlt'⟩
      obtain ⟨x0, -⟩ := st8 hri hx
      have HS : Hid _ := nmS_succ sts k x hx
      clear hx e2
      generalize nmS sts k = E at *
      go_wp2_with fail
      go_roundw
      case rel => exact ⟨k + 1, by omega, by go_num, by rw [HS.out], hfr.allocr _⟩
      case measure => simp [intOf]; omega
    · have hks : k = sts.length := by omega
      subst hks
      go_wp2_with fail
      go_ret
      exact ⟨rfl, hfw⟩
end Go.Proofs.Ytmolmbeeoecnfaa
