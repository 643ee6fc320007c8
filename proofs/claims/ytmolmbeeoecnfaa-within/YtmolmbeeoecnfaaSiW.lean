/- Own work: the walk of the law's 'stripped'. -/
import Derived.Test.YtmolmbeeoecnfaaPen2
import Derived.Test.YtmolmbeeoecnfaaRd1
namespace Go.Proofs.Ytmolmbeeoecnfaa
open Go.RowKit Go.BigFrame
set_option linter.unusedVariables false
set_option linter.unusedSimpArgs false

/-- The bytes that stay. -/
def kp (c : UInt8) : Bool := !(isD c) && !(c == 43) && !(c == 45)
def strp (s : ByteArray) : ByteArray := ⟨(s.data.toList.filter kp).toArray⟩
def stK (s : ByteArray) (k : Nat) : ByteArray := ⟨((s.data.toList.take k).filter kp).toArray⟩
theorem stK_end (s : ByteArray) : stK s s.size = strp s := by
  unfold stK strp; rw [List.take_of_length_le (by exact Nat.le_refl _)]
theorem stK_size (s : ByteArray) (k : Nat) : (stK s k).size ≤ k := by
  have h : (stK s k).size = ((s.data.toList.take k).filter kp).length := rfl
  have h1 := List.length_filter_le kp (s.data.toList.take k)
  have h2 := List.length_take_le k s.data.toList
  omega
theorem stK_succ (s : ByteArray) (k : Nat) (h : k < s.size) : stK s (k + 1) = if kp s[k] = true then stK s k ++ ⟨#[s[k]]⟩ else stK s k := by
  have h1 : k < s.data.toList.length := h
  have h2 : s.data.toList[k] = s[k] := rfl
  unfold stK
  rw [List.take_succ_eq_append_getElem h1, List.filter_append, h2]
  by_cases hk : kp s[k] = true
  · rw [if_pos hk]
    apply ByteArray.ext
    rw [ByteArray.data_append]
    apply Array.toList_inj.1
    simp [hk]
  · rw [if_neg hk]
    simp [hk]
set_option maxRecDepth 100000 in
set_option maxHeartbeats 1000000 in
theorem stripped_any (w : World) (s : ByteArray) (hm : s.size ≤ 1000) : Calls Try.prog 22 #[.string s] w fun e w' => e = .returned (.string (strp s)) ∧ Fr (fun _ => False) w w' := by
  go_enter Try.func22, Try.ntmps22
  go_wp2_with fail
  go_loopw [3, 4] (fun v1 v2 wr => ∃ k : Nat, k ≤ s.size ∧ v2 = .int .i64 k ∧ v1 = .string (stK s k) ∧ Fr (fun _ => False) w wr) (fun _ v2 _ => s.size - (intOf v2).toNat)
  case atStart => exact ⟨0, Nat.zero_le _, rfl, rfl, Fr.refl _ _⟩
  case round =>
    obtain ⟨k, hk, rfl, rfl, hfr⟩ := hrel
    by_cases hlt : (k : Int) < s.size
    · have hlt' : k < s.size := by omega
      have HS : Hid _ := stK_succ s k hlt'
      have hsz := stK_size s k
      have HK : Hid (kp s[k] = (!(isD s[k]) && !(s[k] == 43) && !(s[k] == 45))) := rfl
      generalize stK s k = E at *
      by_cases hd : isD s[k] = true
      · have HE : Hid (stK s (k + 1) = E) := by show _ = _; rw [HS.out, if_neg (by rw [HK.out, hd]; simp)]
        obtain ⟨d1, d2⟩ := (isD_iff _).1 hd
        clear hd HS HK
        go_wp2_with fail
        go_roundw
        case rel => exact ⟨k + 1, by omega, by go_num, by rw [HE.out], hfr⟩
        case measure => simp [intOf]; omega
      · have d0 : ¬ ((48 : Int) ≤ (s[k]).toNat ∧ ((s[k]).toNat : Int) ≤ 57) := fun h => hd ((isD_iff _).2 h)
        have hd' : isD s[k] = false := by simpa using hd
        by_cases h43 : s[k] = 43
        · have HE : Hid (stK s (k + 1) = E) := by show _ = _; rw [HS.out, if_neg (by rw [HK.out, h43]; simp)]
          have hn : s[k].toNat = 43 := by rw [h43]; rfl
          have d1 : ((s[k]).toNat : Int) < 48 := by omega
          have d2 : (((s[k]).toNat : Int) != 43) = false := by rw [hn]; rfl
          clear hd hd' HS HK h43 d0 hn
          go_wp2_with fail
          go_roundw
          case rel => exact ⟨k + 1, by omega, by go_num, by rw [HE.out], hfr⟩
          case measure => simp [intOf]; omega
        · have d2 : (((s[k]).toNat : Int) != 43) = true := by rw [bne_iff_ne]; intro h; exact h43 (UInt8.toNat_inj.1 (by show _ = 43; omega))
          by_cases h45 : s[k] = 45
          · have HE : Hid (stK s (k + 1) = E) := by show _ = _; rw [HS.out, if_neg (by rw [HK.out, h45]; simp)]
            have hn : s[k].toNat = 45 := by rw [h45]; rfl
            have d1 : ((s[k]).toNat : Int) < 48 := by omega
            have d3 : (((s[k]).toNat : Int) != 45) = false := by rw [hn]; rfl
            clear hd hd' HS HK h43 h45 d0 hn
            go_wp2_with fail
            go_roundw
            case rel => exact ⟨k + 1, by omega, by go_num, by rw [HE.out], hfr⟩
            case measure => simp [intOf]; omega
          · have d3 : (((s[k]).toNat : Int) != 45) = true := by rw [bne_iff_ne]; intro h; exact h45 (UInt8.toNat_inj.1 (by show _ = 45; omega))
            have HE : Hid (stK s (k + 1) = E ++ ⟨#[s[k]]⟩) := by show _ = _; rw [HS.out, if_pos (by rw [HK.out, hd']; simp [h43, h45])]
            clear hd hd' HS HK h43 h45
            by_cases d1 : ((s[k]).toNat : Int) < 48
            · clear d0
              go_wp2_with fail
              go_roundw
              case rel => exact ⟨k + 1, by omega, by go_num, by rw [HE.out], by (repeat (first | exact Fr.refl _ _ | assumption | refine Fr.drewNr ?_ _ | refine Fr.drewr ?_ | refine Fr.allocr ?_ _ | refine Fr.setCellr ?_ _ _ (by first | exact Or.inl rfl | (right; simp; done) | (right; simp; omega))))⟩
              case measure => simp [intOf]; omega
            · have d4 : (57 : Int) < (s[k]).toNat := by omega
              clear d0
              go_wp2_with fail
              go_roundw
              case rel => exact ⟨k + 1, by omega, by go_num, by rw [HE.out], by (repeat (first | exact Fr.refl _ _ | assumption | refine Fr.drewNr ?_ _ | refine Fr.drewr ?_ | refine Fr.allocr ?_ _ | refine Fr.setCellr ?_ _ _ (by first | exact Or.inl rfl | (right; simp; done) | (right; simp; omega))))⟩
              case measure => simp [intOf]; omega
    · have hks : k = s.size := by omega
      subst hks
      rw [stK_end]
      go_wp2_with fail
      go_ret
      exact ⟨rfl, hfr⟩
end Go.Proofs.Ytmolmbeeoecnfaa
