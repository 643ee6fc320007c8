/- Own work: the walks of the law's 'has' and 'active'. -/
import Derived.Test.YtmolmbeeoecnfaaPenC
import Derived.Test.YtmolmbeeoecnfaaBaseF
import Derived.Test.YtmolmbeeoecnfaaLawBase
import Derived.Test.YtmolmbeeoecnfaaPen9
namespace Go.Proofs.Ytmolmbeeoecnfaa
open Go.RowKit Go.BigFrame
set_option linter.unusedVariables false
set_option linter.unusedSimpArgs false

def hasB (S : ByteArray) (c : UInt8) : Bool := (firstB (fun k => byte S k == c) S.size).isSome
theorem ret_bH {a b : Bool} (h : a = b) : Ending.returned (.bool a) = .returned (.bool b) := by rw [h]
set_option maxRecDepth 100000 in
set_option maxHeartbeats 1000000 in
theorem has_any (w : World) (S : ByteArray) (c : UInt8) (hS : S.size ≤ 1000000) : Calls Try.prog 21 #[.string S, .int .u8 c.toNat] w fun e w' => e = .returned (.bool (hasB S c)) ∧ Fr (fun _ => False) w w' := by
  go_enter Try.func21, Try.ntmps21
  go_wp2_with fail
  go_loopw [5] (fun vi wr => ∃ k : Nat, k ≤ S.size ∧ vi = .int .i64 k ∧ Hid (∀ j, j < k → (byte S j == c) = false) ∧ Fr (fun _ => False) w wr) (fun vi _ => S.size - (intOf vi).toNat)
  case atStart => exact ⟨0, Nat.zero_le _, rfl, fun j hj => (by omega), Fr.refl _ _⟩
  case round =>
    obtain ⟨k, hk, rfl, HJ, hfr⟩ := hrel
    by_cases hlt : (k : Int) < S.size
    · have hlt' : k < S.size := by omega
      by_cases e : S[k] = c
      · have heq : ((S[k].toNat : Int) == c.toNat) = true := by rw [e]; simp
        have HI : Hid (hasB S c = true) := by
          show _ = _
          unfold hasB
          rw [firstB_some (fun k => byte S k == c) k (by rw [byte_in S k hlt', beq_iff_eq]; exact e) HJ.out S.size hlt']; rfl
        clear e
        go_wp2_with fail
        go_ret
        exact ⟨ret_bH HI.out.symm, hfr⟩
      · have hne : ((S[k].toNat : Int) == c.toNat) = false := by
          rw [beq_eq_false_iff_ne]; intro h; exact e (UInt8.toNat_inj.1 (by omega))
        have HB : Hid ((byte S k == c) = false) := by show _ = _; rw [byte_in S k hlt', beq_eq_false_iff_ne]; exact e
        clear e
        go_wp2_with fail
        go_roundw
        case rel => exact ⟨k + 1, by omega, by go_num, below_step HJ.out HB.out, hfr⟩
        case measure => simp [intOf]; omega
    · have HI : Hid (hasB S c = false) := by
        show _ = _
        unfold hasB
        rw [firstB_none (fun k => byte S k == c) S.size (fun j hj => HJ.out j (by omega))]; rfl
      go_wp2_with fail
      go_ret
      exact ⟨ret_bH HI.out.symm, hfr⟩

set_option maxRecDepth 100000 in
set_option maxHeartbeats 1000000 in
theorem active_any (w : World) (S A : ByteArray) (hS : S.size ≤ 1000000) (hle : A.size ≤ S.size) (hA : A = S.extract 0 A.size) (h1 : ∀ i, i < A.size → byte S i ≠ 47) (h2 : A.size = S.size ∨ byte S A.size = 47) :
    Calls Try.prog 20 #[.string S] w fun e w' => e = .returned (.string A) ∧ Fr (fun _ => False) w w' := by
  have HA : Hid (A = S.extract 0 A.size) := hA
  have H1 : Hid (∀ i, i < A.size → byte S i ≠ 47) := h1
  have H2 : Hid (A.size = S.size ∨ byte S A.size = 47) := h2
  clear hA h1 h2
  go_enter Try.func20, Try.ntmps20
  go_wp2_with fail
  go_loopw [3] (fun vi wr => ∃ k : Nat, k ≤ A.size ∧ vi = .int .i64 k ∧ Fr (fun _ => False) w wr) (fun vi _ => S.size - (intOf vi).toNat)
  case atStart => exact ⟨0, Nat.zero_le _, rfl, Fr.refl _ _⟩
  case round =>
    obtain ⟨k, hk, rfl, hfr⟩ := hrel
    by_cases hlt : (k : Int) < S.size
    · have hlt' : k < S.size := by omega
      by_cases hkA : k = A.size
      · have hb : S[k] = 47 := by
          rcases H2.out with h | h
          · omega
          · rw [← hkA, byte_in S k hlt'] at h; exact h
        have heq : ((S[k].toNat : Int) == 47) = true := by rw [hb]; rfl
        have HX : Hid (S.extract 0 k = A) := by show _ = _; rw [hkA]; exact HA.out.symm
        clear hb hkA
        go_wp2_with fail
        go_ret
        exact ⟨ret_str HX.out, hfr⟩
      · have hb : S[k] ≠ 47 := by have := H1.out k (by omega); rw [byte_in S k hlt'] at this; exact this
        have hne : ((S[k].toNat : Int) == 47) = false := by
          rw [beq_eq_false_iff_ne]; intro h; exact hb (UInt8.toNat_inj.1 (by show _ = 47; omega))
        clear hb
        go_wp2_with fail
        go_roundw
        case rel => exact ⟨k + 1, by omega, by go_num, hfr⟩
        case measure => simp [intOf]; omega
    · have HX : Hid (S = A) := by
        show _ = _
        have hs : A.size = S.size := by omega
        have h3 := HA.out
        rw [hs] at h3
        rw [h3]
        apply ByteArray.ext
        rw [ByteArray.data_extract]
        apply Array.toList_inj.1
        rw [Array.toList_extract, List.extract_eq_take_drop]
        simp only [List.drop_zero, Nat.sub_zero]
        exact (List.take_of_length_le (Nat.le_refl _)).symm
      go_wp2_with fail
      go_ret
      exact ⟨ret_str HX.out, hfr⟩
end Go.Proofs.Ytmolmbeeoecnfaa

/- Own work: the walk of the law Legal, given what is asked of the plain side. -/
namespace Go.Proofs.Ytmolmbeeoecnfaa
open Go.RowKit Go.BigFrame
set_option linter.unusedVariables false
set_option linter.unusedSimpArgs false

def cnt (P : Nat → Bool) : Nat → Nat
  | 0 => 0
  | k + 1 => cnt P k + if P k = true then 1 else 0
theorem cnt_le (P : Nat → Bool) : ∀ k, cnt P k ≤ k
  | 0 => Nat.le_refl _
  | k + 1 => by have := cnt_le P k; rw [cnt]; split <;> omega
def parAt (sts : List StR) (j : Nat) : Int := match sts[j]? with | some y => y.parent | none => -1
def nmAt (sts : List StR) (j : Nat) : UInt8 := match sts[j]? with | some y => y.name | none => 0
def chN (sts : List StR) (i j : Nat) : Bool := decide (i < j) && (parAt sts j == (i : Int))
def chA (on : ByteArray) (sts : List StR) (i j : Nat) : Bool := chN sts i j && hasB on (nmAt sts j)
theorem cnt_none (P : Nat → Bool) : ∀ k, (∀ j, j < k → P j = false) → cnt P k = 0
  | 0, _ => rfl
  | k + 1, h => by rw [cnt, cnt_none P k (fun j hj => h j (by omega)), h k (by omega)]; rfl
theorem chN_low (sts : List StR) (i : Nat) : cnt (chN sts i) (i + 1) = 0 := cnt_none _ _ (fun j hj => by
  have : ¬ i < j := by omega
  simp [chN, this])
theorem chA_low (on : ByteArray) (sts : List StR) (i : Nat) : cnt (chA on sts i) (i + 1) = 0 := cnt_none _ _ (fun j hj => by
  have : ¬ i < j := by omega
  simp [chA, chN, this])
structure LegOk (on : ByteArray) (sts : List StR) : Prop where
  len : sts.length ≤ 26
  osz : on.size ≤ 26
  tl : ∃ told : Nat → Nat, told 0 = 0 ∧ told sts.length = on.size ∧ ∀ i, i < sts.length → (hasB on (nmAt sts i) = true → told i < on.size ∧ byte on (told i) = nmAt sts i ∧ told (i + 1) = told i + 1) ∧ (hasB on (nmAt sts i) = false → told (i + 1) = told i ∧ i ≠ 0)
  en : ∀ (i : Nat) (x : StR), sts[i]? = some x → i < x.end_ ∧ x.end_ ≤ sts.length
  off : ∀ (i : Nat) (x : StR), sts[i]? = some x → hasB on x.name = false → cnt (chA on sts i) x.end_ = 0
  one : ∀ (i : Nat) (x : StR), sts[i]? = some x → hasB on x.name = true → x.kind = 1 → cnt (chA on sts i) x.end_ = 1
  all : ∀ (i : Nat) (x : StR), sts[i]? = some x → hasB on x.name = true → x.kind = 2 → cnt (chA on sts i) x.end_ = cnt (chN sts i) x.end_
theorem st8 {w : World} {st : List StR} {g n c k : Nat} {x : StR} (h3 : w.ownsRow 0 47 8 (.slice (some ⟨g, 0, none⟩) n c) n (st.flatMap StR.cells)) (hx : st[k]? = some x) :
    w.cell? ⟨g, k * 8, none⟩ = some (.int .u8 x.name.toNat) ∧ w.cell? ⟨g, k * 8 + 1, none⟩ = some (.int .i64 x.at_) ∧ w.cell? ⟨g, k * 8 + 2, none⟩ = some (.int .i64 x.parent) ∧ w.cell? ⟨g, k * 8 + 3, none⟩ = some (.int .i64 x.depth) ∧
    w.cell? ⟨g, k * 8 + 4, none⟩ = some (.int .i64 x.kind) ∧ w.cell? ⟨g, k * 8 + 5, none⟩ = some (.int .i64 x.end_) ∧ w.cell? ⟨g, k * 8 + 6, none⟩ = some (.string x.enter) ∧ w.cell? ⟨g, k * 8 + 7, none⟩ = some (.string x.leave) := by
  have key : ∀ o v, o < 8 → x.cells[o]? = some v → w.cell? ⟨g, k * 8 + o, none⟩ = some v := fun o v ho hv =>
    (row_cell h3 (k * 8 + o) v (by rw [flat_get StR.cells 8 StR.len st k o x hx ho]; exact hv)).1
  exact ⟨key 0 _ (by omega) rfl, key 1 _ (by omega) rfl, key 2 _ (by omega) rfl, key 3 _ (by omega) rfl, key 4 _ (by omega) rfl, key 5 _ (by omega) rfl, key 6 _ (by omega) rfl, key 7 _ (by omega) rfl⟩

set_option maxRecDepth 100000 in
set_option maxHeartbeats 2000000 in
theorem legal_walk (s a S O on : ByteArray) (eP : Int) (hm : s.size ≤ maxLen) (hE : (rdE s).1 = 0)
    (hplay : ∀ w, Calls Try.prog 16 #[.string s, .string a] w fun e w' => e = .returned (.tuple #[.string O, .string S, .int .i64 0, .int .i64 eP]) ∧ Fr (fun _ => False) w w')
    (hS : S.size ≤ 1000000) (hle : on.size ≤ S.size) (hA : on = S.extract 0 on.size) (h1 : ∀ i, i < on.size → byte S i ≠ 47) (h2 : on.size = S.size ∨ byte S on.size = 47)
    (hL : LegOk on (rd s).st) (w : World) :
    Calls Try.prog 7 #[.string s, .string a] w fun e w' => e = .returned (.bool true) ∧ Fr (fun _ => False) w w' := by
  have HACT : Hid (∀ w, Calls Try.prog 20 #[.string S] w fun e w' => e = .returned (.string on) ∧ Fr (fun _ => False) w w') := fun w => active_any w S on hS hle hA h1 h2
  have HL : Hid (LegOk on (rd s).st) := hL
  have HP : Hid _ := hplay
  clear hA h1 h2 hL hplay
  go_enter Try.func7, Try.ntmps7
  go_wp2_with fail
  refine (HP.out w).mono ?_
  rintro e w1 ⟨rfl, hf1⟩
  go_wp2_with fail
  refine (read_any w1 s hm).mono ?_
  rintro e w2 ⟨⟨v3, v4, v5, v6⟩, rfl, ⟨⟨a3, n3, c3, e3⟩, ⟨a4, n4, c4, e4⟩, ⟨a5, n5, c5, e5⟩, ⟨a6, n6, c6, e6⟩⟩, hf2, hch⟩
  simp only at e3 e4 e5 e6
  subst e3 e4 e5 e6
  have hch2 := hch hE
  have hr3 := hch2.r3
  obtain ⟨va, vc, hv⟩ := row_len hr3
  simp only at hv
  injection hv with q1 q2 q3
  subst q1 q2 q3
  generalize hst : (rd s).st = sts at *
  have hlen := HL.out.len
  have hosz := HL.out.osz
  have hbk := Blk.new w2 #[.slice a3 sts.length c3, .slice a4 n4 c4, .slice a5 n5 c5, .slice a6 n6 c6] 39
  have hr3' := row_fr hr3 (Fr.alloc (fun _ => False) w2 (.cells #[.slice a3 sts.length c3, .slice a4 n4 c4, .slice a5 n5 c5, .slice a6 n6 c6] 39)) (fun _ _ h => h)
  have hfa := (hf1.thenr hf2 (fun _ _ h => h)).allocr (.cells #[.slice a3 sts.length c3, .slice a4 n4 c4, .slice a5 n5 c5, .slice a6 n6 c6] 39)
  have HBK : Hid _ := hbk
  have HR3 : Hid _ := hr3'
  have HFA : Hid _ := hfa
  clear hbk hr3' hfa hch hch2 hr3 hf1 hf2 hst
  go_wp2_with fail
  refine (lawNum_any _ _).mono ?_
  rintro e w4 ⟨rfl, rfl⟩
  go_wp2_with fail
  refine (HACT.out _).mono ?_
  rintro e w5 ⟨rfl, hf5⟩
  have hb5 := Blk.fr HBK.out hf5 (fun h => h)
  have hr5 := row_fr HR3.out hf5 (fun _ _ h => h)
  have hfr5 := HFA.out.thenr hf5 (fun _ _ h => h)
  generalize w2.heap.size = cb at hb5 ⊢
  clear HBK HR3 HFA hf5 HP HACT
  obtain ⟨told, t0, tn, tst⟩ := HL.out.tl
  have HT : Hid (∀ i, i < sts.length → (hasB on (nmAt sts i) = true → told i < on.size ∧ byte on (told i) = nmAt sts i ∧ told (i + 1) = told i + 1) ∧ (hasB on (nmAt sts i) = false → told (i + 1) = told i ∧ i ≠ 0)) := tst
  have HT0 : Hid (told 0 = 0) := t0
  have HTN : Hid (told sts.length = on.size) := tn
  clear t0 tn tst
  go_wp2_with fail
  go_loopw [13, 14] (fun vt vi wr => ∃ i : Nat, i ≤ sts.length ∧ vi = .int .i64 i ∧ vt = .int .i64 (told i) ∧ told i ≤ i ∧ Fr (fun _ => False) w5 wr) (fun _ vi _ => sts.length - (intOf vi).toNat)
  case atStart => exact ⟨0, Nat.zero_le _, rfl, by rw [HT0.out]; rfl, by rw [HT0.out]; exact Nat.le_refl _, Fr.refl _ _⟩
  case round =>
    obtain ⟨i, hi, rfl, rfl, hti, hfr⟩ := hrel
    have hbi := Blk.fr hb5 hfr (fun h => h)
    have hri := row_fr hr5 hfr (fun _ _ h => h)
    have hfw := hfr5.thenr hfr (fun _ _ h => h)
    have q0 : wr.cell? ⟨cb, 0, none⟩ = some (.slice a3 sts.length c3) := by rw [Blk.cell hbi]; rfl
    by_cases hlt : (i : Int) < sts.length
    · have hlt' : i < sts.length := by omega
      obtain ⟨gg, cc, hv3, hcc⟩ := row_form hri (by omega)
      injection hv3 with e1 e2 e3
      subst e1
      subst e3
      obtain ⟨x, hx⟩ : ∃ x, sts[i]? = some x := ⟨_, List.getElem?_eq_getElem hlt'⟩
      obtain ⟨x0, x1, x2, x3, x4, x5, x6, x7⟩ := st8 hri hx
      have hnm : nmAt sts i = x.name := by simp [nmAt, hx]
      have HX : Hid (sts[i]? = some x) := hx
      have HTi := HT.out i hlt'
      rw [hnm] at HTi
      have HTI : Hid _ := HTi
      have hen := HL.out.en i x hx
      clear hx hnm HTi e2
      have hxb := Blk.new wr #[.int .u8 x.name.toNat, .int .i64 x.at_, .int .i64 x.parent, .int .i64 x.depth, .int .i64 x.kind, .int .i64 x.end_, .string x.enter, .string x.leave] 47
      go_wp2_with fail
      refine (has_any _ on x.name (by omega)).mono ?_
      rintro e w6 ⟨rfl, hf6⟩
      have hx6 := Blk.fr hxb hf6 (fun h => h)
      have hb6 := Blk.fr (Blk.alloc hbi (.cells #[.int .u8 x.name.toNat, .int .i64 x.at_, .int .i64 x.parent, .int .i64 x.depth, .int .i64 x.kind, .int .i64 x.end_, .string x.enter, .string x.leave] 47)) hf6 (fun h => h)
      have hr6 := row_fr (row_fr hri (Fr.alloc (fun _ => False) wr (.cells #[.int .u8 x.name.toNat, .int .i64 x.at_, .int .i64 x.parent, .int .i64 x.depth, .int .i64 x.kind, .int .i64 x.end_, .string x.enter, .string x.leave] 47)) (fun _ _ h => h)) hf6 (fun _ _ h => h)
      have hfw6 := (hfr.allocr (.cells #[.int .u8 x.name.toNat, .int .i64 x.at_, .int .i64 x.parent, .int .i64 x.depth, .int .i64 x.kind, .int .i64 x.end_, .string x.enter, .string x.leave] 47)).thenr hf6 (fun _ _ h => h)
      generalize wr.heap.size = xb at hx6 ⊢
      clear x0 x1 x2 x3 x4 x5 x6 x7 hxb hf6 hbi hri hfw q0 hfr
      have y0 : w6.cell? ⟨xb, 0, none⟩ = some (.int .u8 x.name.toNat) := by rw [Blk.cell hx6]; rfl
      cases hh : hasB on x.name with
      | true =>
        obtain ⟨g1, g2, g3⟩ := HTI.out.1 hh
        have HG3 : Hid (told (i + 1) = told i + 1) := g3
        have hb0 : on[told i] = x.name := by rw [byte_in on _ g1] at g2; exact g2
        have g5 : ((on[told i].toNat : Int) != x.name.toNat) = false := by rw [hb0]; simp
        have HH : Hid (hasB on x.name = true) := hh
        have gN : decide (on.size ≤ told i) = false := by simp; omega
        clear g2 g3 hb0 hh
        go_wp2_with fail
        go_big_quiet (fail)
        by_cases hi0 : (i : Int) = 0
        · have hi1 : ((i : Int) == 0) = true := by rw [beq_iff_eq]; exact hi0
          clear hi0
          go_wp2_with fail
          go_loopw [17, 18, 19] (fun vn va vk wq => ∃ k : Nat, i + 1 ≤ k ∧ k ≤ x.end_ ∧ vk = .int .i64 k ∧ vn = .int .i64 (cnt (chA on sts i) k) ∧ va = .int .i64 (cnt (chN sts i) k) ∧ Fr (fun _ => False) w6 wq) (fun _ _ vk _ => x.end_ - (intOf vk).toNat)
          case atStart => exact ⟨i + 1, Nat.le_refl _, by omega, by go_num, by rw [chA_low]; rfl, by rw [chN_low]; rfl, by (repeat (first | exact Fr.refl _ _ | assumption | refine Fr.drewNr ?_ _ | refine Fr.drewr ?_ | refine Fr.allocr ?_ _ | refine Fr.setCellr ?_ _ _ (by first | exact Or.inl rfl | (right; simp; done) | (right; simp; omega))))⟩
          case round =>
            obtain ⟨k, hk1, hk2, rfl, rfl, rfl, hfq⟩ := hrel
            have hbq := Blk.fr hb6 hfq (fun h => h)
            have hxq := Blk.fr hx6 hfq (fun h => h)
            have hrq := row_fr hr6 hfq (fun _ _ h => h)
            have hfw7 := hfw6.thenr hfq (fun _ _ h => h)
            rename World => wq
            have q0 : wq.cell? ⟨cb, 0, none⟩ = some (.slice (some ⟨gg, 0, none⟩) sts.length c3) := by rw [Blk.cell hbq]; rfl
            have y4 : wq.cell? ⟨xb, 4, none⟩ = some (.int .i64 x.kind) := by rw [Blk.cell hxq]; rfl
            have y5 : wq.cell? ⟨xb, 5, none⟩ = some (.int .i64 x.end_) := by rw [Blk.cell hxq]; rfl
            have hcA := cnt_le (chA on sts i) k
            have hcN := cnt_le (chN sts i) k
            by_cases hke : (k : Int) < x.end_
            · have hkl : k < sts.length := by omega
              obtain ⟨y, hy⟩ : ∃ y, sts[k]? = some y := ⟨_, List.getElem?_eq_getElem hkl⟩
              obtain ⟨z0, -, z2, -, -, -, -, -⟩ := st8 hrq hy
              have hik : i < k := by omega
              have HN : Hid (chN sts i k = (y.parent == (i : Int))) := by show _ = _; simp [chN, parAt, hy, hik]
              have HAc : Hid (chA on sts i k = ((y.parent == (i : Int)) && hasB on y.name)) := by show _ = _; simp [chA, chN, parAt, nmAt, hy, hik]
              have HS1 : Hid (cnt (chN sts i) (k + 1) = cnt (chN sts i) k + if chN sts i k = true then 1 else 0) := rfl
              have HS2 : Hid (cnt (chA on sts i) (k + 1) = cnt (chA on sts i) k + if chA on sts i k = true then 1 else 0) := rfl
              clear hy
              by_cases hp : y.parent = (i : Int)
              · have HN1 : Hid (cnt (chN sts i) (k + 1) = cnt (chN sts i) k + 1) := by show _ = _; rw [HS1.out, HN.out, hp]; simp
                have HA0 : Hid (chA on sts i k = hasB on y.name) := by show _ = _; rw [HAc.out, hp]; simp
                rw [hp] at z2
                clear hp HAc HN HS1
                generalize cnt (chN sts i) k = cN at *
                generalize cnt (chA on sts i) k = cA at *
                go_wp2_with fail
                refine (has_any _ on y.name (by omega)).mono ?_
                rintro e w7 ⟨rfl, hf7⟩
                have hfq7 := hfq.thenr hf7 (fun _ _ h => h)
                cases hy2 : hasB on y.name with
                | true =>
                  have HA1 : Hid (cnt (chA on sts i) (k + 1) = cA + 1) := by show _ = _; rw [HS2.out, HA0.out, hy2]; rfl
                  clear hy2
                  go_wp2_with fail
                  go_roundw
                  case rel => exact ⟨k + 1, by omega, by omega, by go_num, by rw [HA1.out]; go_num, by rw [HN1.out]; go_num, hfq7⟩
                  case measure => simp [intOf]; omega
                | false =>
                  have HA1 : Hid (cnt (chA on sts i) (k + 1) = cA) := by show _ = _; rw [HS2.out, HA0.out, hy2]; rfl
                  clear hy2
                  go_wp2_with fail
                  go_roundw
                  case rel => exact ⟨k + 1, by omega, by omega, by go_num, by rw [HA1.out], by rw [HN1.out]; go_num, hfq7⟩
                  case measure => simp [intOf]; omega
              · have hpb : (y.parent == (i : Int)) = false := by rw [beq_eq_false_iff_ne]; exact hp
                have HN1 : Hid (cnt (chN sts i) (k + 1) = cnt (chN sts i) k) := by show _ = _; rw [HS1.out, HN.out, hpb]; simp
                have HA1 : Hid (cnt (chA on sts i) (k + 1) = cnt (chA on sts i) k) := by show _ = _; rw [HS2.out, HAc.out, hpb]; simp
                clear hp HAc HN HS1 HS2
                go_wp2_with fail
                go_roundw
                case rel => exact ⟨k + 1, by omega, by omega, by go_num, by rw [HA1.out], by rw [HN1.out], hfq⟩
                case measure => simp [intOf]; omega
            · have hkE : k = x.end_ := by omega
              by_cases hk1' : x.kind = 1
              · have hone := HL.out.one i x HX.out HH.out hk1'
                rw [← hkE] at hone
                rw [hone]
                rw [hk1'] at y4
                clear hone hk1'
                go_wp2_with fail
                go_roundw
                case rel => exact ⟨i + 1, by omega, by go_num, (by rw [HG3.out]; go_num), by rw [HG3.out]; omega, hfw7⟩
                case measure => simp [intOf]; omega
              · by_cases hk2' : x.kind = 2
                · have hall := HL.out.all i x HX.out HH.out hk2'
                  rw [← hkE] at hall
                  rw [hall]
                  rw [hk2'] at y4
                  clear hall hk1' hk2'
                  generalize cnt (chN sts i) k = cN at *
                  go_wp2_with fail
                  go_roundw
                  case rel => exact ⟨i + 1, by omega, by go_num, (by rw [HG3.out]; go_num), by rw [HG3.out]; omega, hfw7⟩
                  case measure => simp [intOf]; omega
                · have k1 : ((x.kind : Int) == 1) = false := by rw [beq_eq_false_iff_ne]; omega
                  have k2 : ((x.kind : Int) == 2) = false := by rw [beq_eq_false_iff_ne]; omega
                  go_wp2_with fail
                  go_roundw
                  case rel => exact ⟨i + 1, by omega, by go_num, (by rw [HG3.out]; go_num), by rw [HG3.out]; omega, hfw7⟩
                  case measure => simp [intOf]; omega

        · have hi1 : ((i : Int) == 0) = false := by rw [beq_eq_false_iff_ne]; exact hi0
          go_wp2_with fail
          go_loopw [17, 18, 19] (fun vn va vk wq => ∃ k : Nat, i + 1 ≤ k ∧ k ≤ x.end_ ∧ vk = .int .i64 k ∧ vn = .int .i64 (cnt (chA on sts i) k) ∧ va = .int .i64 (cnt (chN sts i) k) ∧ Fr (fun _ => False) w6 wq) (fun _ _ vk _ => x.end_ - (intOf vk).toNat)
          case atStart => exact ⟨i + 1, Nat.le_refl _, by omega, by go_num, by rw [chA_low]; rfl, by rw [chN_low]; rfl, by (repeat (first | exact Fr.refl _ _ | assumption | refine Fr.drewNr ?_ _ | refine Fr.drewr ?_ | refine Fr.allocr ?_ _ | refine Fr.setCellr ?_ _ _ (by first | exact Or.inl rfl | (right; simp; done) | (right; simp; omega))))⟩
          case round =>
            obtain ⟨k, hk1, hk2, rfl, rfl, rfl, hfq⟩ := hrel
            have hbq := Blk.fr hb6 hfq (fun h => h)
            have hxq := Blk.fr hx6 hfq (fun h => h)
            have hrq := row_fr hr6 hfq (fun _ _ h => h)
            have hfw7 := hfw6.thenr hfq (fun _ _ h => h)
            rename World => wq
            have q0 : wq.cell? ⟨cb, 0, none⟩ = some (.slice (some ⟨gg, 0, none⟩) sts.length c3) := by rw [Blk.cell hbq]; rfl
            have y4 : wq.cell? ⟨xb, 4, none⟩ = some (.int .i64 x.kind) := by rw [Blk.cell hxq]; rfl
            have y5 : wq.cell? ⟨xb, 5, none⟩ = some (.int .i64 x.end_) := by rw [Blk.cell hxq]; rfl
            have hcA := cnt_le (chA on sts i) k
            have hcN := cnt_le (chN sts i) k
            by_cases hke : (k : Int) < x.end_
            · have hkl : k < sts.length := by omega
              obtain ⟨y, hy⟩ : ∃ y, sts[k]? = some y := ⟨_, List.getElem?_eq_getElem hkl⟩
              obtain ⟨z0, -, z2, -, -, -, -, -⟩ := st8 hrq hy
              have hik : i < k := by omega
              have HN : Hid (chN sts i k = (y.parent == (i : Int))) := by show _ = _; simp [chN, parAt, hy, hik]
              have HAc : Hid (chA on sts i k = ((y.parent == (i : Int)) && hasB on y.name)) := by show _ = _; simp [chA, chN, parAt, nmAt, hy, hik]
              have HS1 : Hid (cnt (chN sts i) (k + 1) = cnt (chN sts i) k + if chN sts i k = true then 1 else 0) := rfl
              have HS2 : Hid (cnt (chA on sts i) (k + 1) = cnt (chA on sts i) k + if chA on sts i k = true then 1 else 0) := rfl
              clear hy
              by_cases hp : y.parent = (i : Int)
              · have HN1 : Hid (cnt (chN sts i) (k + 1) = cnt (chN sts i) k + 1) := by show _ = _; rw [HS1.out, HN.out, hp]; simp
                have HA0 : Hid (chA on sts i k = hasB on y.name) := by show _ = _; rw [HAc.out, hp]; simp
                rw [hp] at z2
                clear hp HAc HN HS1
                generalize cnt (chN sts i) k = cN at *
                generalize cnt (chA on sts i) k = cA at *
                go_wp2_with fail
                refine (has_any _ on y.name (by omega)).mono ?_
                rintro e w7 ⟨rfl, hf7⟩
                have hfq7 := hfq.thenr hf7 (fun _ _ h => h)
                cases hy2 : hasB on y.name with
                | true =>
                  have HA1 : Hid (cnt (chA on sts i) (k + 1) = cA + 1) := by show _ = _; rw [HS2.out, HA0.out, hy2]; rfl
                  clear hy2
                  go_wp2_with fail
                  go_roundw
                  case rel => exact ⟨k + 1, by omega, by omega, by go_num, by rw [HA1.out]; go_num, by rw [HN1.out]; go_num, hfq7⟩
                  case measure => simp [intOf]; omega
                | false =>
                  have HA1 : Hid (cnt (chA on sts i) (k + 1) = cA) := by show _ = _; rw [HS2.out, HA0.out, hy2]; rfl
                  clear hy2
                  go_wp2_with fail
                  go_roundw
                  case rel => exact ⟨k + 1, by omega, by omega, by go_num, by rw [HA1.out], by rw [HN1.out]; go_num, hfq7⟩
                  case measure => simp [intOf]; omega
              · have hpb : (y.parent == (i : Int)) = false := by rw [beq_eq_false_iff_ne]; exact hp
                have HN1 : Hid (cnt (chN sts i) (k + 1) = cnt (chN sts i) k) := by show _ = _; rw [HS1.out, HN.out, hpb]; simp
                have HA1 : Hid (cnt (chA on sts i) (k + 1) = cnt (chA on sts i) k) := by show _ = _; rw [HS2.out, HAc.out, hpb]; simp
                clear hp HAc HN HS1 HS2
                go_wp2_with fail
                go_roundw
                case rel => exact ⟨k + 1, by omega, by omega, by go_num, by rw [HA1.out], by rw [HN1.out], hfq⟩
                case measure => simp [intOf]; omega
            · have hkE : k = x.end_ := by omega
              by_cases hk1' : x.kind = 1
              · have hone := HL.out.one i x HX.out HH.out hk1'
                rw [← hkE] at hone
                rw [hone]
                rw [hk1'] at y4
                clear hone hk1'
                go_wp2_with fail
                go_roundw
                case rel => exact ⟨i + 1, by omega, by go_num, (by rw [HG3.out]; go_num), by rw [HG3.out]; omega, hfw7⟩
                case measure => simp [intOf]; omega
              · by_cases hk2' : x.kind = 2
                · have hall := HL.out.all i x HX.out HH.out hk2'
                  rw [← hkE] at hall
                  rw [hall]
                  rw [hk2'] at y4
                  clear hall hk1' hk2'
                  generalize cnt (chN sts i) k = cN at *
                  go_wp2_with fail
                  go_roundw
                  case rel => exact ⟨i + 1, by omega, by go_num, (by rw [HG3.out]; go_num), by rw [HG3.out]; omega, hfw7⟩
                  case measure => simp [intOf]; omega
                · have k1 : ((x.kind : Int) == 1) = false := by rw [beq_eq_false_iff_ne]; omega
                  have k2 : ((x.kind : Int) == 2) = false := by rw [beq_eq_false_iff_ne]; omega
                  go_wp2_with fail
                  go_roundw
                  case rel => exact ⟨i + 1, by omega, by go_num, (by rw [HG3.out]; go_num), by rw [HG3.out]; omega, hfw7⟩
                  case measure => simp [intOf]; omega

      | false =>
        obtain ⟨g3, g4⟩ := HTI.out.2 hh
        have HG3 : Hid (told (i + 1) = told i) := g3
        have HH : Hid (hasB on x.name = false) := hh
        have hi1 : ((i : Int) == 0) = false := by rw [beq_eq_false_iff_ne]; omega
        clear g3 hh
        go_wp2_with fail
        go_loopw [17, 18, 19] (fun vn va vk wq => ∃ k : Nat, i + 1 ≤ k ∧ k ≤ x.end_ ∧ vk = .int .i64 k ∧ vn = .int .i64 (cnt (chA on sts i) k) ∧ va = .int .i64 (cnt (chN sts i) k) ∧ Fr (fun _ => False) w6 wq) (fun _ _ vk _ => x.end_ - (intOf vk).toNat)
        case atStart => exact ⟨i + 1, Nat.le_refl _, by omega, by go_num, by rw [chA_low]; rfl, by rw [chN_low]; rfl, by (repeat (first | exact Fr.refl _ _ | assumption | refine Fr.drewNr ?_ _ | refine Fr.drewr ?_ | refine Fr.allocr ?_ _ | refine Fr.setCellr ?_ _ _ (by first | exact Or.inl rfl | (right; simp; done) | (right; simp; omega))))⟩
        case round =>
          obtain ⟨k, hk1, hk2, rfl, rfl, rfl, hfq⟩ := hrel
          have hbq := Blk.fr hb6 hfq (fun h => h)
          have hxq := Blk.fr hx6 hfq (fun h => h)
          have hrq := row_fr hr6 hfq (fun _ _ h => h)
          have hfw7 := hfw6.thenr hfq (fun _ _ h => h)
          rename World => wq
          have q0 : wq.cell? ⟨cb, 0, none⟩ = some (.slice (some ⟨gg, 0, none⟩) sts.length c3) := by rw [Blk.cell hbq]; rfl
          have y4 : wq.cell? ⟨xb, 4, none⟩ = some (.int .i64 x.kind) := by rw [Blk.cell hxq]; rfl
          have y5 : wq.cell? ⟨xb, 5, none⟩ = some (.int .i64 x.end_) := by rw [Blk.cell hxq]; rfl
          have hcA := cnt_le (chA on sts i) k
          have hcN := cnt_le (chN sts i) k
          by_cases hke : (k : Int) < x.end_
          · have hkl : k < sts.length := by omega
            obtain ⟨y, hy⟩ : ∃ y, sts[k]? = some y := ⟨_, List.getElem?_eq_getElem hkl⟩
            obtain ⟨z0, -, z2, -, -, -, -, -⟩ := st8 hrq hy
            have hik : i < k := by omega
            have HN : Hid (chN sts i k = (y.parent == (i : Int))) := by show _ = _; simp [chN, parAt, hy, hik]
            have HAc : Hid (chA on sts i k = ((y.parent == (i : Int)) && hasB on y.name)) := by show _ = _; simp [chA, chN, parAt, nmAt, hy, hik]
            have HS1 : Hid (cnt (chN sts i) (k + 1) = cnt (chN sts i) k + if chN sts i k = true then 1 else 0) := rfl
            have HS2 : Hid (cnt (chA on sts i) (k + 1) = cnt (chA on sts i) k + if chA on sts i k = true then 1 else 0) := rfl
            clear hy
            by_cases hp : y.parent = (i : Int)
            · have HN1 : Hid (cnt (chN sts i) (k + 1) = cnt (chN sts i) k + 1) := by show _ = _; rw [HS1.out, HN.out, hp]; simp
              have HA0 : Hid (chA on sts i k = hasB on y.name) := by show _ = _; rw [HAc.out, hp]; simp
              rw [hp] at z2
              clear hp HAc HN HS1
              generalize cnt (chN sts i) k = cN at *
              generalize cnt (chA on sts i) k = cA at *
              go_wp2_with fail
              refine (has_any _ on y.name (by omega)).mono ?_
              rintro e w7 ⟨rfl, hf7⟩
              have hfq7 := hfq.thenr hf7 (fun _ _ h => h)
              cases hy2 : hasB on y.name with
              | true =>
                have HA1 : Hid (cnt (chA on sts i) (k + 1) = cA + 1) := by show _ = _; rw [HS2.out, HA0.out, hy2]; rfl
                clear hy2
                go_wp2_with fail
                go_roundw
                case rel => exact ⟨k + 1, by omega, by omega, by go_num, by rw [HA1.out]; go_num, by rw [HN1.out]; go_num, hfq7⟩
                case measure => simp [intOf]; omega
              | false =>
                have HA1 : Hid (cnt (chA on sts i) (k + 1) = cA) := by show _ = _; rw [HS2.out, HA0.out, hy2]; rfl
                clear hy2
                go_wp2_with fail
                go_roundw
                case rel => exact ⟨k + 1, by omega, by omega, by go_num, by rw [HA1.out], by rw [HN1.out]; go_num, hfq7⟩
                case measure => simp [intOf]; omega
            · have hpb : (y.parent == (i : Int)) = false := by rw [beq_eq_false_iff_ne]; exact hp
              have HN1 : Hid (cnt (chN sts i) (k + 1) = cnt (chN sts i) k) := by show _ = _; rw [HS1.out, HN.out, hpb]; simp
              have HA1 : Hid (cnt (chA on sts i) (k + 1) = cnt (chA on sts i) k) := by show _ = _; rw [HS2.out, HAc.out, hpb]; simp
              clear hp HAc HN HS1 HS2
              go_wp2_with fail
              go_roundw
              case rel => exact ⟨k + 1, by omega, by omega, by go_num, by rw [HA1.out], by rw [HN1.out], hfq⟩
              case measure => simp [intOf]; omega
          · have hkE : k = x.end_ := by omega
            have hoff := HL.out.off i x HX.out HH.out
            rw [← hkE] at hoff
            rw [hoff]
            clear hoff
            go_wp2_with fail
            go_roundw
            case rel => exact ⟨i + 1, by omega, by go_num, (by rw [HG3.out]), by rw [HG3.out]; omega, hfw7⟩
            case measure => simp [intOf]; omega
    · have hin : i = sts.length := by omega
      subst hin
      have HFW : Hid _ := hfw
      have htn := HTN.out
      rw [htn]
      go_wp2_with fail
      go_ret
      exact ⟨rfl, HFW.out⟩
end Go.Proofs.Ytmolmbeeoecnfaa
