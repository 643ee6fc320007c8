/- Own work: walks of the program's reader: next, isName, isEvent, isAction, readActions, readActionsBehind, readMark, readReference. -/
import Derived.Test.YtmolmbeeoecnfaaPenA
import Derived.Deep.LoopGhost
import Derived.Deep.DeepCutAuto
namespace Go.Proofs.Ytmolmbeeoecnfaa
open Go.RowKit Go.BigFrame
set_option linter.unusedVariables false
set_option linter.unusedSimpArgs false

def RdB (w : World) (b : Nat) (s : ByteArray) (i : Nat) : Prop := Blk w b #[.string s, .int .i64 i] 107
theorem RdB.cells {w : World} {b : Nat} {s : ByteArray} {i : Nat} (h : RdB w b s i) :
    w.cell? ⟨b, 0, none⟩ = some (.string s) ∧ w.cell? ⟨b, 1, none⟩ = some (.int .i64 i) ∧ ∀ o, w.frozen? ⟨b, o, none⟩ = false := by
  refine ⟨?_, ?_, Blk.frozen h⟩ <;> (rw [Blk.cell h]; rfl)

set_option maxHeartbeats 400000 in
theorem next_any (w : World) (b : Nat) (s : ByteArray) (i : Nat) (hp : RdB w b s i) :
    Calls Try.prog 95 #[.pointer (some ⟨b, 0, none⟩)] w fun e w' => e = .returned (.int .u8 (byte s i).toNat) ∧ ∃ n, w' = w.drewN n := by
  obtain ⟨c0, c1, -⟩ := hp.cells
  clear hp
  by_cases hi : (i : Int) < s.size
  · have HE : Hid (byte s i = s[i]) := byte_in s i (by omega)
    go_enter Try.func95, Try.ntmps95
    go_wp2_with fail
    go_big_quiet (fail)
    go_wp2_with fail
    go_big_quiet (fail)
    go_wp2_with fail
    go_ret
    exact ⟨ret_u8 HE.out.symm, _, World.drewN_drewN ..⟩
  · have hd : decide (i < s.size) = false := by simp; omega
    have HE : Hid (byte s i = 0) := byte_out s i (by omega)
    go_enter Try.func95, Try.ntmps95
    go_wp2_with fail
    go_big_quiet (fail)
    go_wp2_with fail
    go_ret
    exact ⟨ret_u8_0 HE.out, _, rfl⟩

theorem extract_cut (s : ByteArray) (i j : Nat) : s.extract i j = cut s i j := by
  apply ByteArray.ext
  rw [ByteArray.data_extract]
  apply Array.toList_inj.1
  rw [Array.toList_extract]
  rfl

theorem sg_in (s : ByteArray) (sg : UInt8) (i : Nat) (h0 : sg ≠ 0) (h : byte s i = sg) : i < s.size := by
  by_cases e : i < s.size
  · exact e
  · rw [byte_out s i e] at h; exact absurd h.symm h0

set_option maxHeartbeats 400000 in
theorem skip_yes (w : World) (b : Nat) (s : ByteArray) (sg : UInt8) (l : Int) (hl : l = sg.toNat) (i : Nat) (hp : RdB w b s i) (hs : s.size ≤ 1000000) (h0 : sg ≠ 0) (hb : byte s i = sg) :
    Calls Try.prog 89 #[.pointer (some ⟨b, 0, none⟩), .int .u8 l] w fun e w' => e = .returned (.bool true) ∧ RdB w' b s (i + 1) ∧ Fr (· = b) w w' := by
  subst hl
  have hin := sg_in s sg i h0 hb
  have Hb : Hid (byte s i = sg) := hb
  clear hb
  obtain ⟨c0, c1, hfz⟩ := hp.cells
  have hf1 := hfz 1
  clear hfz
  go_enter Try.func89, Try.ntmps89
  go_wp2_with fail
  refine (next_any _ b s i hp).mono ?_
  rintro e w1 ⟨rfl, n1, rfl⟩
  rw [Hb.out]
  go_wp2_with fail
  go_ret
  exact ⟨rfl, Blk.set (Blk.drewN hp n1) 1 _, ((Fr.refl (· = b) w).drewNr n1).setCellr _ _ (Or.inl rfl)⟩
set_option maxHeartbeats 400000 in
theorem skip_no (w : World) (b : Nat) (s : ByteArray) (sg : UInt8) (l : Int) (hl : l = sg.toNat) (i : Nat) (hp : RdB w b s i) (hb : byte s i ≠ sg) :
    Calls Try.prog 89 #[.pointer (some ⟨b, 0, none⟩), .int .u8 l] w fun e w' => e = .returned (.bool false) ∧ RdB w' b s i ∧ Fr (· = b) w w' := by
  subst hl
  have hne : (((byte s i).toNat : Int) != sg.toNat) = true := by
    rw [bne_iff_ne]; intro h; exact hb (UInt8.toNat_inj.1 (by omega))
  clear hb
  go_enter Try.func89, Try.ntmps89
  go_wp2_with fail
  refine (next_any _ b s i hp).mono ?_
  rintro e w1 ⟨rfl, n1, rfl⟩
  go_wp2_with fail
  go_ret
  exact ⟨rfl, hp, (Fr.refl _ _).drewNr _⟩

def isMk (c : UInt8) : Bool := c == 126 || c == 42
def isN (c : UInt8) : Bool := 65 ≤ c && c ≤ 90
def isE (c : UInt8) : Bool := 97 ≤ c && c ≤ 122
theorem isN_iff (c : UInt8) : isN c = true ↔ (65 : Int) ≤ c.toNat ∧ (c.toNat : Int) ≤ 90 := by
  simp only [isN, Bool.and_eq_true, decide_eq_true_eq, UInt8.le_iff_toNat_le]
  show (65 ≤ c.toNat ∧ c.toNat ≤ 90) ↔ _
  omega
theorem isE_iff (c : UInt8) : isE c = true ↔ (97 : Int) ≤ c.toNat ∧ (c.toNat : Int) ≤ 122 := by
  simp only [isE, Bool.and_eq_true, decide_eq_true_eq, UInt8.le_iff_toNat_le]
  show (97 ≤ c.toNat ∧ c.toNat ≤ 122) ↔ _
  omega
theorem isE_b (s : ByteArray) (i : Nat) (h : isE (byte s i) = true) : i < s.size := by
  by_cases e : i < s.size
  · exact e
  · rw [byte_out s i e] at h; simp [isE] at h
theorem ret_bool {a b : Bool} (h : a = b) : Ending.returned (.bool a) = .returned (.bool b) := by rw [h]

set_option maxHeartbeats 400000 in
theorem isName_any (w : World) (c : UInt8) : Calls Try.prog 96 #[.int .u8 c.toNat] w fun e w' => e = .returned (.bool (isN c)) ∧ w' = w := by
  by_cases h1 : (65 : Int) ≤ c.toNat
  · by_cases h2 : (c.toNat : Int) ≤ 90
    · have HE : Hid (isN c = true) := (isN_iff c).2 ⟨h1, h2⟩
      go_enter Try.func96, Try.ntmps96
      go_wp2_with fail
      go_ret
      exact ⟨ret_bool HE.out.symm, rfl⟩
    · have HE : Hid (isN c = false) := Bool.eq_false_iff.2 (fun h => h2 ((isN_iff c).1 h).2)
      go_enter Try.func96, Try.ntmps96
      go_wp2_with fail
      go_ret
      exact ⟨ret_bool HE.out.symm, rfl⟩
  · have HE : Hid (isN c = false) := Bool.eq_false_iff.2 (fun h => h1 ((isN_iff c).1 h).1)
    go_enter Try.func96, Try.ntmps96
    go_wp2_with fail
    go_ret
    exact ⟨ret_bool HE.out.symm, rfl⟩
set_option maxHeartbeats 400000 in
theorem isEvent_any (w : World) (c : UInt8) : Calls Try.prog 108 #[.int .u8 c.toNat] w fun e w' => e = .returned (.bool (isE c)) ∧ w' = w := by
  by_cases h1 : (97 : Int) ≤ c.toNat
  · by_cases h2 : (c.toNat : Int) ≤ 122
    · have HE : Hid (isE c = true) := (isE_iff c).2 ⟨h1, h2⟩
      go_enter Try.func108, Try.ntmps108
      go_wp2_with fail
      go_ret
      exact ⟨ret_bool HE.out.symm, rfl⟩
    · have HE : Hid (isE c = false) := Bool.eq_false_iff.2 (fun h => h2 ((isE_iff c).1 h).2)
      go_enter Try.func108, Try.ntmps108
      go_wp2_with fail
      go_ret
      exact ⟨ret_bool HE.out.symm, rfl⟩
  · have HE : Hid (isE c = false) := Bool.eq_false_iff.2 (fun h => h1 ((isE_iff c).1 h).1)
    go_enter Try.func108, Try.ntmps108
    go_wp2_with fail
    go_ret
    exact ⟨ret_bool HE.out.symm, rfl⟩
set_option maxHeartbeats 400000 in
theorem isDigit_any (w : World) (c : UInt8) : Calls Try.prog 109 #[.int .u8 c.toNat] w fun e w' => e = .returned (.bool (isD c)) ∧ w' = w := by
  by_cases h1 : (48 : Int) ≤ c.toNat
  · by_cases h2 : (c.toNat : Int) ≤ 57
    · have HE : Hid (isD c = true) := (isD_iff c).2 ⟨h1, h2⟩
      go_enter Try.func109, Try.ntmps109
      go_wp2_with fail
      go_ret
      exact ⟨ret_bool HE.out.symm, rfl⟩
    · have HE : Hid (isD c = false) := Bool.eq_false_iff.2 (fun h => h2 ((isD_iff c).1 h).2)
      go_enter Try.func109, Try.ntmps109
      go_wp2_with fail
      go_ret
      exact ⟨ret_bool HE.out.symm, rfl⟩
  · have HE : Hid (isD c = false) := Bool.eq_false_iff.2 (fun h => h1 ((isD_iff c).1 h).1)
    go_enter Try.func109, Try.ntmps109
    go_wp2_with fail
    go_ret
    exact ⟨ret_bool HE.out.symm, rfl⟩

set_option maxRecDepth 100000 in
set_option maxHeartbeats 400000 in
theorem readActions_any (w : World) (b : Nat) (s : ByteArray) (i : Nat) (hp : RdB w b s i) (hs : s.size ≤ 1000000) (hn : i ≤ s.size) :
    Calls Try.prog 90 #[.pointer (some ⟨b, 0, none⟩)] w fun e w' => e = .returned (.string (cut s i (dend s i))) ∧ RdB w' b s (dend s i) ∧ Fr (· = b) w w' := by
  obtain ⟨c0, c1, -⟩ := hp.cells
  go_enter Try.func90, Try.ntmps90
  go_wp2_with fail
  clear c0 c1
  go_loopg [10] (s.size + 1 - i) (fun g vb wr => ∃ k : Nat, i ≤ k ∧ k ≤ s.size ∧ Hid (dend s i = dend s k) ∧ RdB wr b s k ∧ Fr (· = b) w wr ∧ s.size + 1 - k ≤ g)
  case atStart => exact ⟨i, Nat.le_refl _, hn, rfl, hp, Fr.refl _ _, Nat.le_refl _⟩
  case round =>
    obtain ⟨k, hk1, hk2, HD, hpk, hfr, hg⟩ := hrel
    obtain ⟨c0, c1, hfz⟩ := hpk.cells
    have hf1 := hfz 1
    clear hfz
    go_wp2_with fail
    refine (next_any _ b s k hpk).mono ?_
    rintro e w1 ⟨rfl, n1, rfl⟩
    go_wp2_with fail
    refine (isDigit_any _ (byte s k)).mono ?_
    rintro e w2 ⟨rfl, rfl⟩
    by_cases hd : isD (byte s k) = true
    · obtain ⟨hks, hgo⟩ := dend_go s k hd
      have HD2 : Hid (dend s i = dend s (k + 1)) := HD.out.trans hgo
      rw [hd]
      clear hgo HD hd
      go_wp2_with fail
      go_roundg (s.size + 1 - (k + 1))
      case measure => omega
      case rel => exact ⟨k + 1, by omega, by omega, HD2, Blk.set (Blk.drewN hpk n1) 1 _, (hfr.drewNr n1).setCellr _ _ (Or.inl rfl), Nat.le_refl _⟩
    · have hd' : isD (byte s k) = false := by simpa using hd
      have HD2 : Hid (dend s i = k) := HD.out.trans (dend_stop s k hd')
      rw [hd']
      clear hd hd' HD
      go_wp2_with fail
      go_big_quiet (fail)
      go_wp2_with fail
      go_ret
      refine ⟨ret_str (by rw [HD2.out, extract_cut]), by rw [HD2.out]; exact Blk.drewN (Blk.drewN hpk n1) _, (hfr.drewNr n1).drewNr _⟩

/-- The sign, and one or more digits: what is read, where it ends, is it right. -/
def abI (s : ByteArray) (sg : UInt8) (i : Nat) : Nat := if byte s i = sg then dend s (i + 1) else i
def abS (s : ByteArray) (sg : UInt8) (i : Nat) : ByteArray := if byte s i = sg then cut s (i + 1) (dend s (i + 1)) else ⟨#[]⟩
def abK (s : ByteArray) (sg : UInt8) (i : Nat) : Bool := if byte s i = sg then isD (byte s (i + 1)) else true

theorem cut_ne (s : ByteArray) (i : Nat) (h : i ≤ s.size) : (!(cut s i (dend s i)).toList.isEmpty) = isD (byte s i) := by
  rw [ByteArray.toList_eq]
  cases e : isD (byte s i)
  · rw [dend_stop s i e, cut_self]; rfl
  · have h1 := dend_go s i e
    have h2 := cut_size s i (dend s i) (dend_ge s i) (dend_le s i h)
    have h3 := dend_ge s (i + 1)
    have h4 : (cut s i (dend s i)).data.toList.length = (cut s i (dend s i)).size := rfl
    cases e2 : (cut s i (dend s i)).data.toList with
    | nil => rw [e2] at h4; simp at h4; omega
    | cons x l => rfl

set_option maxRecDepth 100000 in
set_option maxHeartbeats 400000 in
theorem readBehind_any (w : World) (b : Nat) (s : ByteArray) (sg : UInt8) (l : Int) (hl : l = sg.toNat) (i : Nat) (hp : RdB w b s i) (hs : s.size ≤ 1000000) (hn : i ≤ s.size) (h0 : sg ≠ 0) :
    Calls Try.prog 97 #[.pointer (some ⟨b, 0, none⟩), .int .u8 l] w fun e w' => e = .returned (.tuple #[.string (abS s sg i), .bool (abK s sg i)]) ∧ RdB w' b s (abI s sg i) ∧ Fr (· = b) w w' := by
  subst hl
  by_cases e : byte s i = sg
  · have hin := sg_in s sg i h0 e
    have HE : Hid (abS s sg i = cut s (i + 1) (dend s (i + 1)) ∧ abI s sg i = dend s (i + 1) ∧ abK s sg i = isD (byte s (i + 1))) := ⟨by rw [abS, if_pos e], by rw [abI, if_pos e], by rw [abK, if_pos e]⟩
    have HN : Hid _ := cut_ne s (i + 1) hin
    have Hb : Hid (byte s i = sg) := e
    clear e
    go_enter Try.func97, Try.ntmps97
    go_wp2_with fail
    refine (skip_yes _ b s sg _ rfl i hp hs h0 Hb.out).mono ?_
    rintro e w1 ⟨rfl, hp1, hf1⟩
    go_wp2_with fail
    refine (readActions_any _ b s (i + 1) hp1 hs hin).mono ?_
    rintro e w2 ⟨rfl, hp2, hf2⟩
    go_wp2_with fail
    go_ret2
    obtain ⟨e1, e2, e3⟩ := HE.out
    refine ⟨?_, by rw [e2]; exact hp2, ?_⟩
    · rw [e1, e3, ← HN.out]; exact rfl
    · exact Fr.thenr hf1 hf2 (fun _ _ h => h)
  · have HE : Hid (abS s sg i = ⟨#[]⟩ ∧ abI s sg i = i ∧ abK s sg i = true) := ⟨by rw [abS, if_neg e], by rw [abI, if_neg e], by rw [abK, if_neg e]⟩
    have Hb : Hid (byte s i ≠ sg) := e
    clear e
    go_enter Try.func97, Try.ntmps97
    go_wp2_with fail
    refine (skip_no _ b s sg _ rfl i hp Hb.out).mono ?_
    rintro e w1 ⟨rfl, hp1, hf1⟩
    go_wp2_with fail
    go_ret2
    obtain ⟨e1, e2, e3⟩ := HE.out
    exact ⟨by rw [e1, e3]; rfl, by rw [e2]; exact hp1, hf1⟩

def rmC (s : ByteArray) (i : Nat) : UInt8 := if isMk (byte s i) then byte s i else 0
def rmI (s : ByteArray) (i : Nat) : Nat := if isMk (byte s i) then i + 1 else i

set_option maxRecDepth 100000 in
set_option maxHeartbeats 400000 in
theorem readMark_any (w : World) (b : Nat) (s : ByteArray) (i : Nat) (hp : RdB w b s i) (hs : s.size ≤ 1000000) (hn : i ≤ s.size) :
    Calls Try.prog 119 #[.pointer (some ⟨b, 0, none⟩)] w fun e w' => e = .returned (.int .u8 (rmC s i).toNat) ∧ RdB w' b s (rmI s i) ∧ Fr (· = b) w w' := by
  obtain ⟨c0, c1, hfz⟩ := hp.cells
  have hf1 := hfz 1
  clear hfz
  by_cases e : isMk (byte s i) = true
  · have HE : Hid (rmC s i = byte s i ∧ rmI s i = i + 1) := ⟨by rw [rmC, if_pos e], by rw [rmI, if_pos e]⟩
    have hc : (((byte s i).toNat : Int) != 126) = false ∨ ((((byte s i).toNat : Int) != 126) = true ∧ (((byte s i).toNat : Int) != 42) = false) := by
      cases h : (((byte s i).toNat : Int) != 126)
      · exact Or.inl rfl
      · refine Or.inr ⟨rfl, ?_⟩
        cases h2 : (((byte s i).toNat : Int) != 42)
        · rfl
        · exfalso
          rw [bne_iff_ne] at h h2
          simp only [isMk, Bool.or_eq_true, beq_iff_eq] at e
          rcases e with e | e
          · rw [e] at h; exact h rfl
          · rw [e] at h2; exact h2 rfl
    clear e
    rcases hc with h | ⟨h, h2⟩
    all_goals
      go_enter Try.func119, Try.ntmps119
      go_wp2_with fail
      refine (next_any _ b s i hp).mono ?_
      rintro e w1 ⟨rfl, n1, rfl⟩
      go_wp2_with fail
      go_ret
      obtain ⟨e1, e2⟩ := HE.out
      exact ⟨ret_u8 e1.symm, by rw [e2]; exact Blk.set (Blk.drewN hp n1) 1 _, ((Fr.refl (· = b) w).drewNr n1).setCellr _ _ (Or.inl rfl)⟩
  · have HE : Hid (rmC s i = 0 ∧ rmI s i = i) := ⟨by rw [rmC, if_neg e], by rw [rmI, if_neg e]⟩
    have h1 : (((byte s i).toNat : Int) != 126) = true := by
      rw [bne_iff_ne]; intro h; apply e; simp only [isMk, Bool.or_eq_true, beq_iff_eq]; exact Or.inl (UInt8.toNat_inj.1 (by show _ = 126; omega))
    have h2 : (((byte s i).toNat : Int) != 42) = true := by
      rw [bne_iff_ne]; intro h; apply e; simp only [isMk, Bool.or_eq_true, beq_iff_eq]; exact Or.inr (UInt8.toNat_inj.1 (by show _ = 42; omega))
    clear e
    go_enter Try.func119, Try.ntmps119
    go_wp2_with fail
    refine (next_any _ b s i hp).mono ?_
    rintro e w1 ⟨rfl, n1, rfl⟩
    go_wp2_with fail
    go_ret
    obtain ⟨e1, e2⟩ := HE.out
    exact ⟨ret_u8_0 e1, by rw [e2]; exact hp, (Fr.refl _ _).drewNr _⟩

set_option maxRecDepth 100000 in
set_option maxHeartbeats 400000 in
theorem readRef_any (w : World) (b : Nat) (s : ByteArray) (i : Nat) (hp : RdB w b s i) (hs : s.size ≤ 1000000) (hn : i ≤ s.size) :
    Calls Try.prog 118 #[.pointer (some ⟨b, 0, none⟩)] w fun e w' => (isN (byte s i) = true → e = .returned (.tuple #[.agg #[.int .u8 (byte s i).toNat, .int .i64 i, .int .i64 (-1)], .bool true]) ∧ RdB w' b s (i + 1)) ∧
      (isN (byte s i) = false → e = .returned (.tuple #[.agg #[.int .u8 0, .int .i64 0, .int .i64 0], .bool false]) ∧ RdB w' b s i) ∧ Fr (· = b) w w' := by
  obtain ⟨c0, c1, hfz⟩ := hp.cells
  have hf1 := hfz 1
  have hbl := Blk.lt hp
  clear hfz
  go_enter Try.func118, Try.ntmps118
  go_wp2_with fail
  refine (next_any _ b s i (by exact Blk.alloc hp _)).mono ?_
  rintro e w1 ⟨rfl, n1, rfl⟩
  go_wp2_with fail
  refine (isName_any _ (byte s i)).mono ?_
  rintro e w2 ⟨rfl, rfl⟩
  by_cases hd : isN (byte s i) = true
  · have HD : Hid (isN (byte s i) = true) := hd
    rw [hd]
    clear hd
    go_wp2_with fail
    refine bodyPost_ret (v := .tuple #[.agg #[.int .u8 (byte s i).toNat, .int .i64 i, .int .i64 (-1)], .bool true]) (by simp [results, Try.results118, go_sem]) rfl ⟨fun _ => ⟨rfl, ?_⟩, fun h => ?_, ?_⟩
    · exact Blk.other (Blk.other (Blk.other (Blk.set (Blk.drewN (Blk.alloc hp _) n1) 1 _) _ _ (by show b ≠ w.heap.size; omega)) _ _ (by show b ≠ w.heap.size; omega)) _ _ (by show b ≠ w.heap.size; omega)
    · rw [HD.out] at h; cases h
    · exact ((((((Fr.refl (· = b) w).allocr _).drewNr n1).setCellr _ _ (Or.inl rfl)).setCellr _ _ (Or.inr (Nat.le_refl _))).setCellr _ _ (Or.inr (Nat.le_refl _))).setCellr _ _ (Or.inr (Nat.le_refl _))
  · have hd' : isN (byte s i) = false := by simpa using hd
    have HD : Hid (isN (byte s i) = false) := hd'
    rw [hd']
    clear hd hd'
    go_wp2_with fail
    refine bodyPost_ret (v := .tuple #[.agg #[.int .u8 0, .int .i64 0, .int .i64 0], .bool false]) (by simp [results, Try.results118, go_sem]) rfl ⟨fun h => ?_, fun _ => ⟨rfl, ?_⟩, ?_⟩
    · rw [HD.out] at h; cases h
    · exact Blk.other (Blk.other (Blk.other (Blk.drewN (Blk.alloc hp _) n1) _ _ (by show b ≠ w.heap.size; omega)) _ _ (by show b ≠ w.heap.size; omega)) _ _ (by show b ≠ w.heap.size; omega)
    · exact (((((Fr.refl (· = b) w).allocr _).drewNr n1).setCellr _ _ (Or.inr (Nat.le_refl _))).setCellr _ _ (Or.inr (Nat.le_refl _))).setCellr _ _ (Or.inr (Nat.le_refl _))
end Go.Proofs.Ytmolmbeeoecnfaa
