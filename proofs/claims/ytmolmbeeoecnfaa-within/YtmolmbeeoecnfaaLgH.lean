/- Own work: the walks of the law's 'has' and 'active'. -/
import Derived.Test.YtmolmbeeoecnfaaPen3
import Derived.Test.YtmolmbeeoecnfaaFind
namespace Go.Proofs.Ytmolmbeeoecnfaa
open Go.RowKit Go.BigFrame
set_option linter.unusedVariables false
set_option linter.unusedSimpArgs false

def hasB (S : ByteArray) (c : UInt8) : Bool := (firstB (fun k => byte S k == c) S.size).isSome
theorem ret_bH {a b : Bool} (h : a = b) : Ending.returned (.bool a) = .returned (.bool b) := by rw [h]
set_option maxRecDepth 100000 in
set_option maxHeartbeats 1000000 in
theorem has_any (w : World) (S : ByteArray) (c : UInt8) (hS : S.size ≤ 1000000) : Calls Try.prog 21 #[.string S, .int .u8 c.toNat] w fun e w' => e = .returned (.bool (hasB S c)) ∧ Fr (fun _ => False) w w' := by
  go_enter Try.func21, Try.ntmps21
  go_wp2_with fail
  go_loopw [5] (fun vi wr => ∃ k : Nat, k ≤ S.size ∧ vi = .int .i64 k ∧ Hid (∀ j, j < k → (byte S j == c) = false) ∧ Fr (fun _ => False) w wr) (fun vi _ => S.size - (intOf vi).toNat)
  case atStart => exact ⟨0, Nat.zero_le _, rfl, fun j hj => (by omega), Fr.refl _ _⟩
  case round =>
    obtain ⟨k, hk, rfl, HJ, hfr⟩ := hrel
    by_cases hlt : (k : Int) < S.size
    · have hlt' : k < S.size := by omega
      by_cases e : S[k] = c
      · have heq : ((S[k].toNat : Int) == c.toNat) = true := by rw [e]; simp
        have HI : Hid (hasB S c = true) := by
          show _ = _
          unfold hasB
          rw [firstB_some (fun k => byte S k == c) k (by rw [byte_in S k hlt', beq_iff_eq]; exact e) HJ.out S.size hlt']; rfl
        clear e
        go_wp2_with fail
        go_ret
        exact ⟨ret_bH HI.out.symm, hfr⟩
      · have hne : ((S[k].toNat : Int) == c.toNat) = false := by
          rw [beq_eq_false_iff_ne]; intro h; exact e (UInt8.toNat_inj.1 (by omega))
        have HB : Hid ((byte S k == c) = false) := by show _ = _; rw [byte_in S k hlt', beq_eq_false_iff_ne]; exact e
        clear e
        go_wp2_with fail
        go_roundw
        case rel => exact ⟨k + 1, by omega, by go_num, below_step HJ.out HB.out, hfr⟩
        case measure => simp [intOf]; omega
    · have HI : Hid (hasB S c = false) := by
        show _ = _
        unfold hasB
        rw [firstB_none (fun k => byte S k == c) S.size (fun j hj => HJ.out j (by omega))]; rfl
      go_wp2_with fail
      go_ret
      exact ⟨ret_bH HI.out.symm, hfr⟩

set_option maxRecDepth 100000 in
set_option maxHeartbeats 1000000 in
theorem active_any (w : World) (S A : ByteArray) (hS : S.size ≤ 1000000) (hle : A.size ≤ S.size) (hA : A = S.extract 0 A.size) (h1 : ∀ i, i < A.size → byte S i ≠ 47) (h2 : A.size = S.size ∨ byte S A.size = 47) :
    Calls Try.prog 20 #[.string S] w fun e w' => e = .returned (.string A) ∧ Fr (fun _ => False) w w' := by
  have HA : Hid (A = S.extract 0 A.size) := hA
  have H1 : Hid (∀ i, i < A.size → byte S i ≠ 47) := h1
  have H2 : Hid (A.size = S.size ∨ byte S A.size = 47) := h2
  clear hA h1 h2
  go_enter Try.func20, Try.ntmps20
  go_wp2_with fail
  go_loopw [3] (fun vi wr => ∃ k : Nat, k ≤ A.size ∧ vi = .int .i64 k ∧ Fr (fun _ => False) w wr) (fun vi _ => S.size - (intOf vi).toNat)
  case atStart => exact ⟨0, Nat.zero_le _, rfl, Fr.refl _ _⟩
  case round =>
    obtain ⟨k, hk, rfl, hfr⟩ := hrel
    by_cases hlt : (k : Int) < S.size
    · have hlt' : k < S.size := by omega
      by_cases hkA : k = A.size
      · have hb : S[k] = 47 := by
          rcases H2.out with h | h
          · omega
          · rw [← hkA, byte_in S k hlt'] at h; exact h
        have heq : ((S[k].toNat : Int) == 47) = true := by rw [hb]; rfl
        have HX : Hid (S.extract 0 k = A) := by show _ = _; rw [hkA]; exact HA.out.symm
        clear hb hkA
        go_wp2_with fail
        go_ret
        exact ⟨ret_str HX.out, hfr⟩
      · have hb : S[k] ≠ 47 := by have := H1.out k (by omega); rw [byte_in S k hlt'] at this; exact this
        have hne : ((S[k].toNat : Int) == 47) = false := by
          rw [beq_eq_false_iff_ne]; intro h; exact hb (UInt8.toNat_inj.1 (by show _ = 47; omega))
        clear hb
        go_wp2_with fail
        go_roundw
        case rel => exact ⟨k + 1, by omega, by go_num, hfr⟩
        case measure => simp [intOf]; omega
    · have HX : Hid (S = A) := by
        show _ = _
        have hs : A.size = S.size := by omega
        have h3 := HA.out
        rw [hs] at h3
        rw [h3]
        apply ByteArray.ext
        rw [ByteArray.data_extract]
        apply Array.toList_inj.1
        rw [Array.toList_extract, List.extract_eq_take_drop]
        simp only [List.drop_zero, Nat.sub_zero]
        exact (List.take_of_length_le (Nat.le_refl _)).symm
      go_wp2_with fail
      go_ret
      exact ⟨ret_str HX.out, hfr⟩
end Go.Proofs.Ytmolmbeeoecnfaa
