/- Own work: Rd1, AppF. -/
import Derived.Test.YtmolmbeeoecnfaaGreatDoorF01
import Derived.Deep.LoopGhost
import Derived.Deep.DeepCutAuto
import Derived.ArgAppend
/- Own work: walks of the program's reader: next, isName, isEvent, isAction, readActions, readActionsBehind, readMark, readReference. -/
namespace Go.Proofs.YtmolmbeeoecnfaaGreatDoor
open Go.RowKit Go.BigFrame
set_option linter.unusedVariables false
set_option linter.unusedSimpArgs false

def RdB (w : World) (b : Nat) (s : ByteArray) (i : Nat) : Prop := Blk w b #[.string s, .int .i64 i] 73
theorem RdB.cells {w : World} {b : Nat} {s : ByteArray} {i : Nat} (h : RdB w b s i) :
  w.cell? ⟨b, 0, none⟩ = some (.string s) ∧ w.cell? ⟨b, 1, none⟩ = some (.int .i64 i) ∧ ∀ o, w.frozen? ⟨b, o, none⟩ = false := by
 refine ⟨?_, ?_, Blk.frozen h⟩ <;> (rw [Blk.cell h]; rfl)

set_option maxHeartbeats 400000 in
theorem next_any (w : World) (b : Nat) (s : ByteArray) (i : Nat) (hp : RdB w b s i) :
  Calls Tryz.prog 61 #[.pointer (some ⟨b, 0, none⟩)] w fun e w' => e = .returned (.int .u8 (byte s i).toNat) ∧ ∃ n, w' = w.drewN n := by
 obtain ⟨c0, c1, -⟩ := hp.cells
 clear hp
 by_cases hi : (i : Int) < s.size
 ·have HE : Hid (byte s i = s[i]) := byte_in s i (by omega)
  go_enter Tryz.func61, Tryz.ntmps61
  go_wp2_with fail
  go_big_quiet (fail)
  go_wp2_with fail
  go_big_quiet (fail)
  go_wp2_with fail
  go_ret
  exact ⟨ret_u8 HE.out.symm, _, World.drewN_drewN ..⟩
 ·have hd : decide (i < s.size) = false := by simp; omega
  have HE : Hid (byte s i = 0) := byte_out s i (by omega)
  go_enter Tryz.func61, Tryz.ntmps61
  go_wp2_with fail
  go_big_quiet (fail)
  go_wp2_with fail
  go_ret
  exact ⟨ret_u8_0 HE.out, _, rfl⟩

theorem extract_cut (s : ByteArray) (i j : Nat) : s.extract i j = cut s i j := by
 apply ByteArray.ext
 rw [ByteArray.data_extract]
 apply Array.toList_inj.1
 rw [Array.toList_extract]
 rfl

theorem sg_in (s : ByteArray) (sg : UInt8) (i : Nat) (h0 : sg ≠ 0) (h : byte s i = sg) : i < s.size := by
 by_cases e : i < s.size
 ·exact e
 ·rw [byte_out s i e] at h; exact absurd h.symm h0

set_option maxHeartbeats 400000 in
theorem skip_yes (w : World) (b : Nat) (s : ByteArray) (sg : UInt8) (l : Int) (hl : l = sg.toNat) (i : Nat) (hp : RdB w b s i) (hs : s.size ≤ 1000000) (h0 : sg ≠ 0) (hb : byte s i = sg) :
  Calls Tryz.prog 78 #[.pointer (some ⟨b, 0, none⟩), .int .u8 l] w fun e w' => e = .returned (.bool true) ∧ RdB w' b s (i + 1) ∧ Fr (· = b) w w' := by
 subst hl
 have hin := sg_in s sg i h0 hb
 have Hb : Hid (byte s i = sg) := hb
 clear hb
 obtain ⟨c0, c1, hfz⟩ := hp.cells
 have hf1 := hfz 1
 clear hfz
 go_enter Tryz.func78, Tryz.ntmps78
 go_wp2_with fail
 refine (next_any _ b s i hp).mono ?_
 rintro e w1 ⟨rfl, n1, rfl⟩
 rw [Hb.out]
 go_wp2_with fail
 go_ret
 exact ⟨rfl, Blk.set (Blk.drewN hp n1) 1 _, ((Fr.refl (· = b) w).drewNr n1).setCellr _ _ (Or.inl rfl)⟩
set_option maxHeartbeats 400000 in
theorem skip_no (w : World) (b : Nat) (s : ByteArray) (sg : UInt8) (l : Int) (hl : l = sg.toNat) (i : Nat) (hp : RdB w b s i) (hb : byte s i ≠ sg) :
  Calls Tryz.prog 78 #[.pointer (some ⟨b, 0, none⟩), .int .u8 l] w fun e w' => e = .returned (.bool false) ∧ RdB w' b s i ∧ Fr (· = b) w w' := by
 subst hl
 have hne : (((byte s i).toNat : Int) != sg.toNat) = true := by
  rw [bne_iff_ne]; intro h; exact hb (UInt8.toNat_inj.1 (by omega))
 clear hb
 go_enter Tryz.func78, Tryz.ntmps78
 go_wp2_with fail
 refine (next_any _ b s i hp).mono ?_
 rintro e w1 ⟨rfl, n1, rfl⟩
 go_wp2_with fail
 go_ret
 exact ⟨rfl, hp, (Fr.refl _ _).drewNr _⟩

def isMk (c : UInt8) : Bool := c == 126 || c == 42
def isN (c : UInt8) : Bool := 65 ≤ c && c ≤ 90
def isE (c : UInt8) : Bool := 97 ≤ c && c ≤ 122
theorem isN_iff (c : UInt8) : isN c = true ↔ (65 : Int) ≤ c.toNat ∧ (c.toNat : Int) ≤ 90 := by
 simp only [isN, Bool.and_eq_true, decide_eq_true_eq, UInt8.le_iff_toNat_le]
 show (65 ≤ c.toNat ∧ c.toNat ≤ 90) ↔ _
 omega
theorem isE_iff (c : UInt8) : isE c = true ↔ (97 : Int) ≤ c.toNat ∧ (c.toNat : Int) ≤ 122 := by
 simp only [isE, Bool.and_eq_true, decide_eq_true_eq, UInt8.le_iff_toNat_le]
 show (97 ≤ c.toNat ∧ c.toNat ≤ 122) ↔ _
 omega
theorem isE_b (s : ByteArray) (i : Nat) (h : isE (byte s i) = true) : i < s.size := by
 by_cases e : i < s.size
 ·exact e
 ·rw [byte_out s i e] at h; simp [isE] at h
theorem ret_bool {a b : Bool} (h : a = b) : Ending.returned (.bool a) = .returned (.bool b) := by rw [h]

set_option maxHeartbeats 400000 in
theorem isName_any (w : World) (c : UInt8) : Calls Tryz.prog 62 #[.int .u8 c.toNat] w fun e w' => e = .returned (.bool (isN c)) ∧ w' = w := by
 by_cases h1 : (65 : Int) ≤ c.toNat
 ·by_cases h2 : (c.toNat : Int) ≤ 90
  ·have HE : Hid (isN c = true) := (isN_iff c).2 ⟨h1, h2⟩
   go_enter Tryz.func62, Tryz.ntmps62
   go_wp2_with fail
   go_ret
   exact ⟨ret_bool HE.out.symm, rfl⟩
  ·have HE : Hid (isN c = false) := Bool.eq_false_iff.2 (fun h => h2 ((isN_iff c).1 h).2)
   go_enter Tryz.func62, Tryz.ntmps62
   go_wp2_with fail
   go_ret
   exact ⟨ret_bool HE.out.symm, rfl⟩
 ·have HE : Hid (isN c = false) := Bool.eq_false_iff.2 (fun h => h1 ((isN_iff c).1 h).1)
  go_enter Tryz.func62, Tryz.ntmps62
  go_wp2_with fail
  go_ret
  exact ⟨ret_bool HE.out.symm, rfl⟩
set_option maxHeartbeats 400000 in
theorem isEvent_any (w : World) (c : UInt8) : Calls Tryz.prog 97 #[.int .u8 c.toNat] w fun e w' => e = .returned (.bool (isE c)) ∧ w' = w := by
 by_cases h1 : (97 : Int) ≤ c.toNat
 ·by_cases h2 : (c.toNat : Int) ≤ 122
  ·have HE : Hid (isE c = true) := (isE_iff c).2 ⟨h1, h2⟩
   go_enter Tryz.func97, Tryz.ntmps97
   go_wp2_with fail
   go_ret
   exact ⟨ret_bool HE.out.symm, rfl⟩
  ·have HE : Hid (isE c = false) := Bool.eq_false_iff.2 (fun h => h2 ((isE_iff c).1 h).2)
   go_enter Tryz.func97, Tryz.ntmps97
   go_wp2_with fail
   go_ret
   exact ⟨ret_bool HE.out.symm, rfl⟩
 ·have HE : Hid (isE c = false) := Bool.eq_false_iff.2 (fun h => h1 ((isE_iff c).1 h).1)
  go_enter Tryz.func97, Tryz.ntmps97
  go_wp2_with fail
  go_ret
  exact ⟨ret_bool HE.out.symm, rfl⟩
set_option maxHeartbeats 400000 in
theorem isDigit_any (w : World) (c : UInt8) : Calls Tryz.prog 96 #[.int .u8 c.toNat] w fun e w' => e = .returned (.bool (isD c)) ∧ w' = w := by
 by_cases h1 : (48 : Int) ≤ c.toNat
 ·by_cases h2 : (c.toNat : Int) ≤ 57
  ·have HE : Hid (isD c = true) := (isD_iff c).2 ⟨h1, h2⟩
   go_enter Tryz.func96, Tryz.ntmps96
   go_wp2_with fail
   go_ret
   exact ⟨ret_bool HE.out.symm, rfl⟩
  ·have HE : Hid (isD c = false) := Bool.eq_false_iff.2 (fun h => h2 ((isD_iff c).1 h).2)
   go_enter Tryz.func96, Tryz.ntmps96
   go_wp2_with fail
   go_ret
   exact ⟨ret_bool HE.out.symm, rfl⟩
 ·have HE : Hid (isD c = false) := Bool.eq_false_iff.2 (fun h => h1 ((isD_iff c).1 h).1)
  go_enter Tryz.func96, Tryz.ntmps96
  go_wp2_with fail
  go_ret
  exact ⟨ret_bool HE.out.symm, rfl⟩

set_option maxRecDepth 100000 in
set_option maxHeartbeats 400000 in
theorem readActions_any (w : World) (b : Nat) (s : ByteArray) (i : Nat) (hp : RdB w b s i) (hs : s.size ≤ 1000000) (hn : i ≤ s.size) :
  Calls Tryz.prog 79 #[.pointer (some ⟨b, 0, none⟩)] w fun e w' => e = .returned (.string (cut s i (dend s i))) ∧ RdB w' b s (dend s i) ∧ Fr (· = b) w w' := by
 obtain ⟨c0, c1, -⟩ := hp.cells
 go_enter Tryz.func79, Tryz.ntmps79
 go_wp2_with fail
 clear c0 c1
 go_loopg [10] (s.size + 1 - i) (fun g vb wr => ∃ k : Nat, i ≤ k ∧ k ≤ s.size ∧ Hid (dend s i = dend s k) ∧ RdB wr b s k ∧ Fr (· = b) w wr ∧ s.size + 1 - k ≤ g)
 case atStart => exact ⟨i, Nat.le_refl _, hn, rfl, hp, Fr.refl _ _, Nat.le_refl _⟩
 case round =>
  obtain ⟨k, hk1, hk2, HD, hpk, hfr, hg⟩ := hrel
  obtain ⟨c0, c1, hfz⟩ := hpk.cells
  have hf1 := hfz 1
  clear hfz
  go_wp2_with fail
  refine (next_any _ b s k hpk).mono ?_
  rintro e w1 ⟨rfl, n1, rfl⟩
  go_wp2_with fail
  refine (isDigit_any _ (byte s k)).mono ?_
  rintro e w2 ⟨rfl, rfl⟩
  by_cases hd : isD (byte s k) = true
  ·obtain ⟨hks, hgo⟩ := dend_go s k hd
   have HD2 : Hid (dend s i = dend s (k + 1)) := HD.out.trans hgo
   rw [hd]
   clear hgo HD hd
   go_wp2_with fail
   go_roundg (s.size + 1 - (k + 1))
   case measure => omega
   case rel => exact ⟨k + 1, by omega, by omega, HD2, Blk.set (Blk.drewN hpk n1) 1 _, (hfr.drewNr n1).setCellr _ _ (Or.inl rfl), Nat.le_refl _⟩
  ·have hd' : isD (byte s k) = false := by simpa using hd
   have HD2 : Hid (dend s i = k) := HD.out.trans (dend_stop s k hd')
   rw [hd']
   clear hd hd' HD
   go_wp2_with fail
   go_big_quiet (fail)
   go_wp2_with fail
   go_ret
   refine ⟨ret_str (by rw [HD2.out, extract_cut]), by rw [HD2.out]; exact Blk.drewN (Blk.drewN hpk n1) _, (hfr.drewNr n1).drewNr _⟩

def abI (s : ByteArray) (sg : UInt8) (i : Nat) : Nat := if byte s i = sg then dend s (i + 1) else i
def abS (s : ByteArray) (sg : UInt8) (i : Nat) : ByteArray := if byte s i = sg then cut s (i + 1) (dend s (i + 1)) else ⟨#[]⟩
def abK (s : ByteArray) (sg : UInt8) (i : Nat) : Bool := if byte s i = sg then isD (byte s (i + 1)) else true

theorem cut_ne (s : ByteArray) (i : Nat) (h : i ≤ s.size) : (!(cut s i (dend s i)).toList.isEmpty) = isD (byte s i) := by
 rw [ByteArray.toList_eq]
 cases e : isD (byte s i)
 ·rw [dend_stop s i e, cut_self]; rfl
 ·have h1 := dend_go s i e
  have h2 := cut_size s i (dend s i) (dend_ge s i) (dend_le s i h)
  have h3 := dend_ge s (i + 1)
  have h4 : (cut s i (dend s i)).data.toList.length = (cut s i (dend s i)).size := rfl
  cases e2 : (cut s i (dend s i)).data.toList with
  | nil => rw [e2] at h4; simp at h4; omega
  | cons x l => rfl

set_option maxRecDepth 100000 in
set_option maxHeartbeats 400000 in
theorem readBehind_any (w : World) (b : Nat) (s : ByteArray) (sg : UInt8) (l : Int) (hl : l = sg.toNat) (i : Nat) (hp : RdB w b s i) (hs : s.size ≤ 1000000) (hn : i ≤ s.size) (h0 : sg ≠ 0) :
  Calls Tryz.prog 63 #[.pointer (some ⟨b, 0, none⟩), .int .u8 l] w fun e w' => e = .returned (.tuple #[.string (abS s sg i), .bool (abK s sg i)]) ∧ RdB w' b s (abI s sg i) ∧ Fr (· = b) w w' := by
 subst hl
 by_cases e : byte s i = sg
 ·have hin := sg_in s sg i h0 e
  have HE : Hid (abS s sg i = cut s (i + 1) (dend s (i + 1)) ∧ abI s sg i = dend s (i + 1) ∧ abK s sg i = isD (byte s (i + 1))) := ⟨by rw [abS, if_pos e], by rw [abI, if_pos e], by rw [abK, if_pos e]⟩
  have HN : Hid _ := cut_ne s (i + 1) hin
  have Hb : Hid (byte s i = sg) := e
  clear e
  go_enter Tryz.func63, Tryz.ntmps63
  go_wp2_with fail
  refine (skip_yes _ b s sg _ rfl i hp hs h0 Hb.out).mono ?_
  rintro e w1 ⟨rfl, hp1, hf1⟩
  go_wp2_with fail
  refine (readActions_any _ b s (i + 1) hp1 hs hin).mono ?_
  rintro e w2 ⟨rfl, hp2, hf2⟩
  go_wp2_with fail
  go_ret2
  obtain ⟨e1, e2, e3⟩ := HE.out
  refine ⟨?_, by rw [e2]; exact hp2, ?_⟩
  ·rw [e1, e3, ← HN.out]; exact rfl
  ·exact Fr.thenr hf1 hf2 (fun _ _ h => h)
 ·have HE : Hid (abS s sg i = ⟨#[]⟩ ∧ abI s sg i = i ∧ abK s sg i = true) := ⟨by rw [abS, if_neg e], by rw [abI, if_neg e], by rw [abK, if_neg e]⟩
  have Hb : Hid (byte s i ≠ sg) := e
  clear e
  go_enter Tryz.func63, Tryz.ntmps63
  go_wp2_with fail
  refine (skip_no _ b s sg _ rfl i hp Hb.out).mono ?_
  rintro e w1 ⟨rfl, hp1, hf1⟩
  go_wp2_with fail
  go_ret2
  obtain ⟨e1, e2, e3⟩ := HE.out
  exact ⟨by rw [e1, e3]; rfl, by rw [e2]; exact hp1, hf1⟩

def rmC (s : ByteArray) (i : Nat) : UInt8 := if isMk (byte s i) then byte s i else 0
def rmI (s : ByteArray) (i : Nat) : Nat := if isMk (byte s i) then i + 1 else i

set_option maxRecDepth 100000 in
set_option maxHeartbeats 400000 in
theorem readMark_any (w : World) (b : Nat) (s : ByteArray) (i : Nat) (hp : RdB w b s i) (hs : s.size ≤ 1000000) (hn : i ≤ s.size) :
  Calls Tryz.prog 100 #[.pointer (some ⟨b, 0, none⟩)] w fun e w' => e = .returned (.int .u8 (rmC s i).toNat) ∧ RdB w' b s (rmI s i) ∧ Fr (· = b) w w' := by
 obtain ⟨c0, c1, hfz⟩ := hp.cells
 have hf1 := hfz 1
 clear hfz
 by_cases e : isMk (byte s i) = true
 ·have HE : Hid (rmC s i = byte s i ∧ rmI s i = i + 1) := ⟨by rw [rmC, if_pos e], by rw [rmI, if_pos e]⟩
  have hc : (((byte s i).toNat : Int) != 126) = false ∨ ((((byte s i).toNat : Int) != 126) = true ∧ (((byte s i).toNat : Int) != 42) = false) := by
   cases h : (((byte s i).toNat : Int) != 126)
   ·exact Or.inl rfl
   ·refine Or.inr ⟨rfl, ?_⟩
    cases h2 : (((byte s i).toNat : Int) != 42)
    ·rfl
    ·exfalso
     rw [bne_iff_ne] at h h2
     simp only [isMk, Bool.or_eq_true, beq_iff_eq] at e
     rcases e with e | e
     ·rw [e] at h; exact h rfl
     ·rw [e] at h2; exact h2 rfl
  clear e
  rcases hc with h | ⟨h, h2⟩
  all_goals
   go_enter Tryz.func100, Tryz.ntmps100
   go_wp2_with fail
   refine (next_any _ b s i hp).mono ?_
   rintro e w1 ⟨rfl, n1, rfl⟩
   go_wp2_with fail
   go_ret
   obtain ⟨e1, e2⟩ := HE.out
   exact ⟨ret_u8 e1.symm, by rw [e2]; exact Blk.set (Blk.drewN hp n1) 1 _, ((Fr.refl (· = b) w).drewNr n1).setCellr _ _ (Or.inl rfl)⟩
 ·have HE : Hid (rmC s i = 0 ∧ rmI s i = i) := ⟨by rw [rmC, if_neg e], by rw [rmI, if_neg e]⟩
  have h1 : (((byte s i).toNat : Int) != 126) = true := by
   rw [bne_iff_ne]; intro h; apply e; simp only [isMk, Bool.or_eq_true, beq_iff_eq]; exact Or.inl (UInt8.toNat_inj.1 (by show _ = 126; omega))
  have h2 : (((byte s i).toNat : Int) != 42) = true := by
   rw [bne_iff_ne]; intro h; apply e; simp only [isMk, Bool.or_eq_true, beq_iff_eq]; exact Or.inr (UInt8.toNat_inj.1 (by show _ = 42; omega))
  clear e
  go_enter Tryz.func100, Tryz.ntmps100
  go_wp2_with fail
  refine (next_any _ b s i hp).mono ?_
  rintro e w1 ⟨rfl, n1, rfl⟩
  go_wp2_with fail
  go_ret
  obtain ⟨e1, e2⟩ := HE.out
  exact ⟨ret_u8_0 e1, by rw [e2]; exact hp, (Fr.refl _ _).drewNr _⟩

set_option maxRecDepth 100000 in
set_option maxHeartbeats 400000 in
theorem readRef_any (w : World) (b : Nat) (s : ByteArray) (i : Nat) (hp : RdB w b s i) (hs : s.size ≤ 1000000) (hn : i ≤ s.size) :
  Calls Tryz.prog 99 #[.pointer (some ⟨b, 0, none⟩)] w fun e w' => (isN (byte s i) = true → e = .returned (.tuple #[.agg #[.int .u8 (byte s i).toNat, .int .i64 i, .int .i64 (-1)], .bool true]) ∧ RdB w' b s (i + 1)) ∧
   (isN (byte s i) = false → e = .returned (.tuple #[.agg #[.int .u8 0, .int .i64 0, .int .i64 0], .bool false]) ∧ RdB w' b s i) ∧ Fr (· = b) w w' := by
 obtain ⟨c0, c1, hfz⟩ := hp.cells
 have hf1 := hfz 1
 have hbl := Blk.lt hp
 clear hfz
 go_enter Tryz.func99, Tryz.ntmps99
 go_wp2_with fail
 refine (next_any _ b s i (by exact Blk.alloc hp _)).mono ?_
 rintro e w1 ⟨rfl, n1, rfl⟩
 go_wp2_with fail
 refine (isName_any _ (byte s i)).mono ?_
 rintro e w2 ⟨rfl, rfl⟩
 by_cases hd : isN (byte s i) = true
 ·have HD : Hid (isN (byte s i) = true) := hd
  rw [hd]
  clear hd
  go_wp2_with fail
  refine bodyPost_ret (v := .tuple #[.agg #[.int .u8 (byte s i).toNat, .int .i64 i, .int .i64 (-1)], .bool true]) (by simp [results, Tryz.results99, go_sem]) rfl ⟨fun _ => ⟨rfl, ?_⟩, fun h => ?_, ?_⟩
  ·exact Blk.other (Blk.other (Blk.other (Blk.set (Blk.drewN (Blk.alloc hp _) n1) 1 _) _ _ (by show b ≠ w.heap.size; omega)) _ _ (by show b ≠ w.heap.size; omega)) _ _ (by show b ≠ w.heap.size; omega)
  ·rw [HD.out] at h; cases h
  ·exact ((((((Fr.refl (· = b) w).allocr _).drewNr n1).setCellr _ _ (Or.inl rfl)).setCellr _ _ (Or.inr (Nat.le_refl _))).setCellr _ _ (Or.inr (Nat.le_refl _))).setCellr _ _ (Or.inr (Nat.le_refl _))
 ·have hd' : isN (byte s i) = false := by simpa using hd
  have HD : Hid (isN (byte s i) = false) := hd'
  rw [hd']
  clear hd hd'
  go_wp2_with fail
  refine bodyPost_ret (v := .tuple #[.agg #[.int .u8 0, .int .i64 0, .int .i64 0], .bool false]) (by simp [results, Tryz.results99, go_sem]) rfl ⟨fun h => ?_, fun _ => ⟨rfl, ?_⟩, ?_⟩
  ·rw [HD.out] at h; cases h
  ·exact Blk.other (Blk.other (Blk.other (Blk.drewN (Blk.alloc hp _) n1) _ _ (by show b ≠ w.heap.size; omega)) _ _ (by show b ≠ w.heap.size; omega)) _ _ (by show b ≠ w.heap.size; omega)
  ·exact (((((Fr.refl (· = b) w).allocr _).drewNr n1).setCellr _ _ (Or.inr (Nat.le_refl _))).setCellr _ _ (Or.inr (Nat.le_refl _))).setCellr _ _ (Or.inr (Nat.le_refl _))
end Go.Proofs.YtmolmbeeoecnfaaGreatDoor

/- Own work: one element appended to a slice that the call itself made. Names nothing of the program. -/
namespace Go.Proofs.YtmolmbeeoecnfaaGreatDoor
open Go.RowKit
set_option linter.unusedVariables false
set_option linter.unusedSimpArgs false

structure ElemOk (P : Program) (t e : TypeId) (sz bytes : Nat) : Prop where
 ht : P.underlying t = some (.slice e)
 info : ∃ i z, P.info? e = some i ∧ i.zero = some z ∧ i.size = sz ∧ i.bytes = bytes ∧ z.cells.size = sz
 pos : 0 < sz

theorem run_append1 {P : Program} (w : World) (t ty e : TypeId) (sz bytes : Nat) (he : ElemOk P t e sz bytes)
  (v : Value) (n : Nat) (xs : List Value) (hown : w.ownsRow 0 e sz v n xs)
  (a : Addr) (c : Nat) (news : List Value) (hl : news.length = sz) (hnews : ∀ j u, news[j]? = some u → w.cell? (a.add j) = some u) (h1 : ∀ u ∈ news, u.oneCell' = true)
  (h63 : n + 1 ≤ maxLen) (hbytes : (n + 1) * bytes ≤ 140737488355328) :
  ∃ g cap w', (Builtin.append_ #[t, t] ty #[v, .slice (some a) 1 c]).run P w = .ok (.slice (some ⟨g, 0, none⟩) (n + 1) cap) w' ∧
   w'.ownsRow 0 e sz (.slice (some ⟨g, 0, none⟩) (n + 1) cap) (n + 1) (xs ++ news) ∧ w.grownBy w' v.ownBlock ∧ (v.ownBlock = some g ∨ w.heap.size ≤ g) := by
 obtain ⟨ht, ⟨i, z, hi, hz, hsize, hby, hzs⟩, hsz⟩ := he
 have hl' : news.length = 1 * sz := by omega
 rcases hown.2 with ⟨rfl, rfl⟩ | ⟨g, cap, cur, rfl, hbg, hg, hnc, hcm, hcs, htake⟩
 ·obtain ⟨v', w', hrun, r1, r2, r3⟩ := run_append_own (P := P) w w.heap.size t ty e i z sz bytes ht hi hz hsize hby hzs hsz (.slice none 0 0) 0 [] (World.ownsRow_nil w _ e sz) a 1 c news hl' hnews h1 h63 hbytes (Nat.le_refl _)
  have hx : xs = [] := List.eq_nil_of_length_eq_zero (by simpa using hown.1)
  subst hx
  rcases r1.2 with ⟨rfl, h0⟩ | ⟨g, cap, cur, rfl, q1, q2, q3⟩
  ·omega
  ·exact ⟨g, cap, w', hrun, ⟨r1.1, .inr ⟨g, cap, cur, rfl, Nat.zero_le _, q2, q3⟩⟩, r2, .inr q1⟩
 ·by_cases hroom : n + 1 ≤ cap
  ·obtain ⟨v', w', hrun, r1, r2, r3⟩ := run_append_own (P := P) w 0 t ty e i z sz bytes ht hi hz hsize hby hzs hsz _ n xs hown a 1 c news hl' hnews h1 h63 hbytes (Nat.zero_le _)
   have hfit : n * i.size + news.length ≤ cur.size := by rw [hl', hcs, hsize, ← Nat.add_mul]; exact Nat.mul_le_mul_right _ hroom
   have hr := run_append_room (P := P) w t ty e i ht hi g n cap cur hg a 1 c news (by rw [hsize]; exact hl') hnews h1 hroom hfit
   have e2 : v' = .slice (some ⟨g, 0, none⟩) (n + 1) cap := by
    rw [hr] at hrun
    injection hrun with e1 e2
    exact e1.symm
   subst e2
   exact ⟨g, cap, w', hrun, r1, r2, .inl rfl⟩
  ·have holds : ∀ j u, xs[j]? = some u → w.cell? ((⟨g, 0, none⟩ : Addr).add j) = some u := hown.cells (g := g) rfl
   obtain ⟨v', w', hrun, r1, r2⟩ := run_append_arg_grows (P := P) w t ty e i z sz bytes ht hi hz hsize hby hzs hsz ⟨g, 0, none⟩ n cap xs hown.1 holds a 1 c news hl' hnews (by omega) h63 hbytes
   rcases r1.2 with ⟨rfl, h0⟩ | ⟨g', cap', cur', rfl, q1, q2, q3⟩
   ·omega
   ·exact ⟨g', cap', w', hrun, ⟨r1.1, .inr ⟨g', cap', cur', rfl, Nat.zero_le _, q2, q3⟩⟩, ⟨r2.os, r2.tape, r2.output, r2.size, fun k hk _ => r2.block k hk (by simp)⟩, .inr q1⟩

theorem wp_append1 {P : Program} {w : World} {o : Oper} {a : Act} {K : Act → World → Prop} {Q : Exit → Act → World → Prop} (s x : Operand) (t : TypeId)
  (ho : o.op = .call { callee := .builtin .append, args := #[s, x], argTypes := #[t, t] })
  (e : TypeId) (sz bytes : Nat) (he : ElemOk P t e sz bytes)
  (v : Value) (n : Nat) (xs : List Value) (hs : a.eval s = v) (hown : w.ownsRow 0 e sz v n xs)
  (ad : Addr) (c : Nat) (news : List Value) (hx : a.eval x = .slice (some ad) 1 c) (hl : news.length = sz) (hnews : ∀ j u, news[j]? = some u → w.cell? (ad.add j) = some u) (h1 : ∀ u ∈ news, u.oneCell' = true)
  (h63 : n + 1 ≤ maxLen) (hbytes : (n + 1) * bytes ≤ 140737488355328)
  (h : ∀ g cap w', w'.ownsRow 0 e sz (.slice (some ⟨g, 0, none⟩) (n + 1) cap) (n + 1) (xs ++ news) → w.grownBy w' v.ownBlock → (v.ownBlock = some g ∨ w.heap.size ≤ g) → K (a.put o.dst (.slice (some ⟨g, 0, none⟩) (n + 1) cap)) w') : o.wp P a w K Q := by
 obtain ⟨g, cap, w', hr, h2, h3, h4⟩ := run_append1 (P := P) w t o.type e sz bytes he v n xs hown ad c news hl hnews h1 h63 hbytes
 unfold Oper.wp execOp
 simp only [ho, resolve, invoke, builtin, Sem.run_bind, Sem.run_pure, Result.andThen_ok, List.map_toArray, List.map_cons, List.map_nil, hs, hx, hr]
 exact h g cap w' h2 h3 h4

theorem wpList_append1 {P : Program} {w : World} {ops : Array Oper} {rest : List Oper} {o : Oper} {a : Act} {Q : Exit → Act → World → Prop} (hgd : o.guard = none) (s x : Operand) (t : TypeId)
  (ho : o.op = .call { callee := .builtin .append, args := #[s, x], argTypes := #[t, t] })
  (e : TypeId) (sz bytes : Nat) (he : ElemOk P t e sz bytes)
  (v : Value) (n : Nat) (xs : List Value) (hs : a.eval s = v) (hown : w.ownsRow 0 e sz v n xs)
  (ad : Addr) (c : Nat) (news : List Value) (hx : a.eval x = .slice (some ad) 1 c) (hl : news.length = sz) (hnews : ∀ j u, news[j]? = some u → w.cell? (ad.add j) = some u) (h1 : ∀ u ∈ news, u.oneCell' = true)
  (h63 : n + 1 ≤ maxLen) (hbytes : (n + 1) * bytes ≤ 140737488355328)
  (h : ∀ g cap w', w'.ownsRow 0 e sz (.slice (some ⟨g, 0, none⟩) (n + 1) cap) (n + 1) (xs ++ news) → w.grownBy w' v.ownBlock → (v.ownBlock = some g ∨ w.heap.size ≤ g) → wpList P ops Q rest (a.put o.dst (.slice (some ⟨g, 0, none⟩) (n + 1) cap)) w') : wpList P ops Q (o :: rest) a w :=
 wpList_plain hgd fun _ hK => wp_append1 s x t ho e sz bytes he v n xs hs hown ad c news hx hl hnews h1 h63 hbytes fun g cap w' h2 h3 h4 => hK _ _ (h g cap w' h2 h3 h4)

theorem step_append1 {P : Program} {w : World} {ops : Array Oper} {o : Oper} {a : Act} {K : Act → World → Prop} {Q : Exit → Act → World → Prop} {E : Prop} (hgd : o.guard = none) (s x : Operand) (t : TypeId)
  (ho : o.op = .call { callee := .builtin .append, args := #[s, x], argTypes := #[t, t] })
  (e : TypeId) (sz bytes : Nat) (he : ElemOk P t e sz bytes)
  (v : Value) (n : Nat) (xs : List Value) (hs : a.eval s = v) (hown : w.ownsRow 0 e sz v n xs)
  (ad : Addr) (c : Nat) (news : List Value) (hx : a.eval x = .slice (some ad) 1 c) (hl : news.length = sz) (hnews : ∀ j u, news[j]? = some u → w.cell? (ad.add j) = some u) (h1 : ∀ u ∈ news, u.oneCell' = true)
  (h63 : n + 1 ≤ maxLen) (hbytes : (n + 1) * bytes ≤ 140737488355328)
  (h : ∀ g cap w', w'.ownsRow 0 e sz (.slice (some ⟨g, 0, none⟩) (n + 1) cap) (n + 1) (xs ++ news) → w.grownBy w' v.ownBlock → (v.ownBlock = some g ∨ w.heap.size ≤ g) → K (a.put o.dst (.slice (some ⟨g, 0, none⟩) (n + 1) cap)) w') :
  if Region.wanted o (yielded ops a.tmps) = true then Oper.wp P o a w K Q else E := by
 have hw : Region.wanted o (yielded ops a.tmps) = true := by simp [Region.wanted, hgd]
 rw [if_pos hw]
 exact wp_append1 s x t ho e sz bytes he v n xs hs hown ad c news hx hl hnews h1 h63 hbytes h

end Go.Proofs.YtmolmbeeoecnfaaGreatDoor

/- Own work: lists of records laid out in cells. Names nothing of the program. -/
namespace Go.Proofs.YtmolmbeeoecnfaaGreatDoor
set_option linter.unusedVariables false
set_option linter.unusedSimpArgs false

theorem flat_get {α : Type} (f : α → List Value) (m : Nat) (hf : ∀ x, (f x).length = m) : ∀ (l : List α) (i j : Nat) (x : α), l[i]? = some x → j < m → (l.flatMap f)[i * m + j]? = (f x)[j]?
 | [], _, _, _, h, _ => by simp at h
 | y :: l, 0, j, x, h, hj => by
  simp at h
  subst h
  simp only [List.flatMap_cons, Nat.zero_mul, Nat.zero_add]
  rw [List.getElem?_append_left (by rw [hf]; exact hj)]
 | y :: l, i + 1, j, x, h, hj => by
  simp at h
  simp only [List.flatMap_cons]
  rw [List.getElem?_append_right (by rw [hf, Nat.add_mul]; omega), hf, show (i + 1) * m + j - m = i * m + j by rw [Nat.add_mul]; omega]
  exact flat_get f m hf l i j x h hj

theorem flat_set {α : Type} (f : α → List Value) (m : Nat) (hf : ∀ x, (f x).length = m) (g : α → α) (j : Nat) (hj : j < m) (v : Value) : ∀ (l : List α) (i : Nat), (∀ x, l[i]? = some x → f (g x) = (f x).set j v) → i < l.length → (l.modify i g).flatMap f = (l.flatMap f).set (i * m + j) v
 | [], _, _, h => by simp at h
 | y :: l, 0, hg, _ => by
  simp only [List.modify_zero_cons, List.flatMap_cons, Nat.zero_mul, Nat.zero_add]
  rw [hg y (by simp), List.set_append_left _ _ (by rw [hf]; exact hj)]
 | y :: l, i + 1, hg, h => by
  simp only [List.modify_succ_cons, List.flatMap_cons]
  rw [List.set_append_right _ _ (by rw [hf, Nat.add_mul]; omega), hf, show (i + 1) * m + j - m = i * m + j by rw [Nat.add_mul]; omega, flat_set f m hf g j hj v l i (by simpa using hg) (by simpa using h)]

theorem row_set {w : World} {e : TypeId} {sz : Nat} {g n c : Nat} {xs : List Value} (h : w.ownsRow 0 e sz (.slice (some ⟨g, 0, none⟩) n c) n xs) (j : Nat) (v : Value) (hj : j < n * sz) :
  (w.setCell ⟨g, j, none⟩ v).ownsRow 0 e sz (.slice (some ⟨g, 0, none⟩) n c) n (xs.set j v) := by
 refine ⟨by rw [List.length_set]; exact h.1, ?_⟩
 rcases h.2 with ⟨h0, _⟩ | ⟨g', cap, cur, hv, hb, hg, h1, h2, h3, h4⟩
 ·cases h0
 ·cases hv
  refine .inr ⟨g, c, cur.setIfInBounds j v, rfl, hb, Blk.set hg j v, h1, h2, by simpa using h3, ?_⟩
  rw [Array.toList_setIfInBounds, ← h4, List.take_set]

theorem row_cell {w : World} {e : TypeId} {sz : Nat} {g n c : Nat} {xs : List Value} (h : w.ownsRow 0 e sz (.slice (some ⟨g, 0, none⟩) n c) n xs) (j : Nat) (v : Value) (hj : xs[j]? = some v) :
  w.cell? ⟨g, j, none⟩ = some v ∧ w.frozen? ⟨g, j, none⟩ = false := by
 have h5 := h.cells (g := g) rfl j v hj
 rw [Addr.add_lit, Nat.zero_add] at h5
 refine ⟨h5, ?_⟩
 rcases h.2 with ⟨h0, _⟩ | ⟨g', cap, cur, hv, hb, hg, _⟩
 ·cases h0
 ·cases hv
  exact Blk.frozen hg j

theorem row_form {w : World} {e : TypeId} {sz : Nat} {v : Value} {n : Nat} {xs : List Value} (h : w.ownsRow 0 e sz v n xs) (hn : 0 < n) : ∃ g c, v = .slice (some ⟨g, 0, none⟩) n c ∧ n ≤ c := by
 rcases h.2 with ⟨_, h0⟩ | ⟨g', cap, cur, hv, hb, hg, h1, _⟩
 ·omega
 ·exact ⟨g', cap, hv, h1⟩
theorem row_len {w : World} {e : TypeId} {sz : Nat} {v : Value} {n : Nat} {xs : List Value} (h : w.ownsRow 0 e sz v n xs) : ∃ a c, v = .slice a n c := by
 rcases h.2 with ⟨h1, h0⟩ | ⟨g', cap, cur, hv, _⟩
 ·exact ⟨none, 0, by rw [h1, h0]⟩
 ·exact ⟨_, cap, hv⟩
end Go.Proofs.YtmolmbeeoecnfaaGreatDoor
