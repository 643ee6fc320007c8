/- Own work: the walk of the document's Events. -/
import Derived.Test.YtmolmbeeoecnfaaPenC
import Derived.Test.YtmolmbeeoecnfaaBaseF
import Derived.Test.YtmolmbeeoecnfaaData
import Derived.Test.YtmolmbeeoecnfaaAppF
namespace Go.Proofs.Ytmolmbeeoecnfaa
open Go.RowKit Go.BigFrame
set_option linter.unusedVariables false
set_option linter.unusedSimpArgs false

/-! The document's Events. -/
def hasEv (tr : List TrR) (b : UInt8) : Bool := tr.any fun t => t.event == b
def evK (tr : List TrR) : Nat → ByteArray
  | 0 => ⟨#[]⟩
  | k + 1 => if hasEv tr (UInt8.ofNat (97 + k)) = true then evK tr k ++ ⟨#[UInt8.ofNat (97 + k)]⟩ else evK tr k
theorem evK_size (tr : List TrR) : ∀ k, (evK tr k).size ≤ k
  | 0 => Nat.le_refl _
  | k + 1 => by
    have := evK_size tr k
    rw [evK]; split
    · rw [ByteArray.size_append]; show (evK tr k).size + 1 ≤ k + 1; omega
    · omega
theorem evK_mem (tr : List TrR) (c : UInt8) : ∀ k, (∃ j, j < k ∧ c = UInt8.ofNat (97 + j)) → hasEv tr c = true → c ∈ (evK tr k).data.toList
  | 0, ⟨j, hj, _⟩, _ => by omega
  | k + 1, ⟨j, hj, hc⟩, h => by
    rw [evK]
    by_cases hjk : j = k
    · subst hjk
      rw [← hc, if_pos h, ByteArray.data_append]
      simp
    · have ih := evK_mem tr c k ⟨j, by omega, hc⟩ h
      split
      · rw [ByteArray.data_append]; simp only [Array.toList_append, List.mem_append]; exact Or.inl ih
      · exact ih
def evAt (tr : List TrR) (c : UInt8) (k : Nat) : Bool := match tr[k]? with | some t => t.event == c | none => false
theorem evAt_at {tr : List TrR} {k : Nat} {t : TrR} (h : tr[k]? = some t) (c : UInt8) : evAt tr c k = (t.event == c) := by simp [evAt, h]
theorem hasEv_yes {tr : List TrR} {c : UInt8} {k : Nat} {t : TrR} (h : tr[k]? = some t) (he : t.event = c) : hasEv tr c = true := by
  unfold hasEv; rw [List.any_eq_true]; exact ⟨t, List.mem_of_getElem? h, by rw [beq_iff_eq]; exact he⟩
theorem hasEv_no {tr : List TrR} {c : UInt8} (h : ∀ j, j < tr.length → evAt tr c j = false) : hasEv tr c = false := by
  unfold hasEv; rw [List.any_eq_false]
  intro t ht
  obtain ⟨k, hk⟩ := List.mem_iff_getElem?.1 ht
  have := h k (List.getElem?_eq_some_iff.1 hk).1
  rw [evAt_at hk] at this
  rw [this]; simp
theorem letter_nat (k : Nat) (h : k < 26) : ((UInt8.ofNat (97 + k)).toNat : Int) = 97 + (k : Int) := by
  rw [UInt8.toNat_ofNat', Nat.mod_eq_of_lt (by omega)]; omega

set_option maxRecDepth 100000 in
set_option maxHeartbeats 1000000 in
theorem events_any (w : World) (cb : Nat) (v3 v4 v5 v6 : Value) (tr : List TrR) (hb : Blk w cb #[v3, v4, v5, v6] 39) (hr : w.ownsRow 0 51 6 v4 tr.length (tr.flatMap TrR.cells)) (hl : tr.length ≤ 1000000) :
    Calls Try.prog 19 #[.pointer (some ⟨cb, 0, none⟩)] w fun e w' => e = .returned (.string (evK tr 26)) ∧ Fr (fun _ => False) w w' := by
  obtain ⟨va, vc, hv⟩ := row_len hr
  subst hv
  go_enter Try.func19, Try.ntmps19
  go_wp2_with fail
  go_loopw [3, 4] (fun v1 v2 wr => ∃ k : Nat, k ≤ 26 ∧ v2 = .int .i64 k ∧ v1 = .string (evK tr k) ∧ Fr (fun _ => False) w wr) (fun _ v2 _ => 26 - (intOf v2).toNat)
  case atStart => exact ⟨0, Nat.zero_le _, rfl, rfl, Fr.refl _ _⟩
  case round =>
    obtain ⟨k, hk, rfl, rfl, hfr⟩ := hrel
    have hbk := Blk.fr hb hfr (fun h => h)
    have hrk := row_fr hr hfr (fun _ _ h => h)
    have hsz := evK_size tr k
    by_cases hlt : (k : Int) < 26
    · have hlt' : k < 26 := by omega
      obtain ⟨c, hc⟩ : ∃ c, UInt8.ofNat (97 + k) = c := ⟨_, rfl⟩
      have hcn : (97 + (k : Int)) = c.toNat := by rw [← hc]; exact (letter_nat k hlt').symm
      have HY : Hid (hasEv tr c = true → evK tr (k + 1) = evK tr k ++ ⟨#[c]⟩) := fun h => by rw [evK, hc, if_pos h]
      have HN : Hid (hasEv tr c = false → evK tr (k + 1) = evK tr k) := fun h => by rw [evK, hc, if_neg (by simp [h])]
      have hwr : (97 + (k : Int)) % 256 = c.toNat := by rw [← hcn]; omega
      generalize evK tr k = E at *
      go_wp2_with fail
      clear hcn hwr
      go_loopw [3, 6] (fun ve vj wq => ∃ j : Nat, j ≤ tr.length ∧ vj = .int .i64 j ∧ ve = .string E ∧ Hid (∀ i, i < j → evAt tr c i = false) ∧ Fr (fun _ => False) wr wq) (fun _ vj _ => tr.length - (intOf vj).toNat)
      case atStart => exact ⟨0, Nat.zero_le _, rfl, rfl, fun i hi => (by omega), Fr.refl _ _⟩
      case round =>
        obtain ⟨j, hj, rfl, rfl, HJ, hfq⟩ := hrel
        have hbq := Blk.fr hbk hfq (fun h => h)
        have hrq := row_fr hrk hfq (fun _ _ h => h)
        have hfw := hfr.thenr hfq (fun _ _ h => h)
        rename World => wq
        have q1 : wq.cell? ⟨cb, 1, none⟩ = some (.slice va tr.length vc) := by rw [Blk.cell hbq]; rfl
        by_cases hjl : (j : Int) < tr.length
        · have hjl' : j < tr.length := by omega
          obtain ⟨gg, cc, hv3, hcc⟩ := row_form hrq (by omega)
          injection hv3 with e1 e2 e3
          subst e1
          subst e3
          obtain ⟨x, hx⟩ : ∃ x, tr[j]? = some x := ⟨_, List.getElem?_eq_getElem hjl'⟩
          have hcell := (row_cell hrq (j * 6 + 1) (.int .u8 x.event.toNat) (by rw [flat_get TrR.cells 6 (fun _ => rfl) tr j 1 x hx (by omega)]; rfl)).1
          have HX : Hid (tr[j]? = some x) := hx
          clear hx e2
          by_cases e : x.event = c
          · have HE : Hid (evK tr (k + 1) = E ++ ⟨#[c]⟩) := HY.out (hasEv_yes HX.out e)
            have heq : ((x.event.toNat : Int) == c.toNat) = true := by rw [e]; simp
            clear HY HN e
            go_wp2_with fail
            go_roundw
            case rel => exact ⟨k + 1, by omega, by go_num, by rw [HE.out], hfw.allocr _⟩
            case measure => simp [intOf]; omega
          · have hne : ((x.event.toNat : Int) == c.toNat) = false := by
              rw [beq_eq_false_iff_ne]; intro h; exact e (UInt8.toNat_inj.1 (by omega))
            have HA : Hid (evAt tr c j = false) := by show _ = _; rw [evAt_at HX.out]; simpa using e
            clear e
            go_wp2_with fail
            go_roundw
            case rel => exact ⟨j + 1, by omega, by go_num, rfl, below_step HJ.out HA.out, hfq⟩
            case measure => simp [intOf]; omega
        · have HE : Hid (evK tr (k + 1) = E) := HN.out (hasEv_no (fun i hi => HJ.out i (by omega)))
          clear HY HN
          go_wp2_with fail
          go_roundw
          case rel => exact ⟨k + 1, by omega, by go_num, by rw [HE.out], hfw⟩
          case measure => simp [intOf]; omega
    · have hk26 : k = 26 := by omega
      subst hk26
      go_wp2_with fail
      go_ret
      exact ⟨rfl, hfr⟩
end Go.Proofs.Ytmolmbeeoecnfaa
