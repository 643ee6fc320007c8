/- Own work: TR1, TR2. -/
import Derived.Test.YtmolmbeeoecnfabDoorQ26
import Derived.Test.YtmolmbeeoecnfabDoorQ02
import Derived.Test.YtmolmbeeoecnfabDoorQ03
/- Own work: walks of the program's table reader: readRising, readNumber, readCell. -/
namespace Go.Proofs.YtmolmbeeoecnfabDoor
open Go.RowKit Go.BigFrame
set_option linter.unusedVariables false
set_option linter.unusedSimpArgs false

set_option maxRecDepth 100000 in
set_option maxHeartbeats 400000 in
theorem readRising_any (w : World) (b : Nat) (s : ByteArray) (i : Nat) (hp : RdB w b s i) (hs : s.size ≤ 1000000) (hn : i ≤ s.size) :
    Calls Tryd.prog 52 #[.pointer (some ⟨b, 0, none⟩)] w fun e w' => e = .returned (.string (cut s i (evE s 0 i))) ∧ RdB w' b s (evE s 0 i) ∧ Fr (· = b) w w' := by
  obtain ⟨c0, c1, -⟩ := hp.cells
  go_enter Tryd.func52, Tryd.ntmps52
  go_wp2_with fail
  refine (next_any _ b s i hp).mono ?_
  rintro e w1 ⟨rfl, n1, rfl⟩
  go_wp2_with fail
  clear c0 c1
  go_loopg [4, 5] (s.size + 1 - i) (fun g vl ve wr => ∃ (k : Nat) (l : UInt8), i ≤ k ∧ k ≤ s.size ∧ Hid (evE s 0 i = evE s l k) ∧ vl = .int .u8 l.toNat ∧ ve = .int .u8 (byte s k).toNat ∧ RdB wr b s k ∧ Fr (· = b) w wr ∧ s.size + 1 - k ≤ g)
  case atStart => exact ⟨i, 0, Nat.le_refl _, hn, rfl, rfl, rfl, Blk.drewN hp n1, (Fr.refl _ _).drewNr _, Nat.le_refl _⟩
  case round =>
    obtain ⟨k, l, hk1, hk2, HD, rfl, rfl, hpk, hfr, hg⟩ := hrel
    obtain ⟨c0, c1, hfz⟩ := hpk.cells
    have hf1 := hfz 1
    clear hfz
    go_wp2_with fail
    refine (isEvent_any _ (byte s k)).mono ?_
    rintro e w2 ⟨rfl, rfl⟩
    by_cases hd : isE (byte s k) = true
    · by_cases hl : (l.toNat : Int) < (byte s k).toNat
      · obtain ⟨hks, hgo⟩ := evE_go s l k ⟨hd, by rw [UInt8.lt_iff_toNat_lt]; omega⟩
        have HD2 : Hid (evE s 0 i = evE s (byte s k) (k + 1)) := HD.out.trans hgo
        rw [hd]
        clear hgo HD hd
        go_wp2_with fail
        refine (next_any _ b s (k + 1) (by exact Blk.set hpk 1 _)).mono ?_
        rintro e w3 ⟨rfl, n3, rfl⟩
        go_wp2_with fail
        go_roundg (s.size + 1 - (k + 1))
        case measure => omega
        case rel => exact ⟨k + 1, byte s k, by omega, by omega, HD2, rfl, rfl, Blk.drewN (Blk.set hpk 1 _) n3, (hfr.setCellr _ _ (Or.inl rfl)).drewNr n3, Nat.le_refl _⟩
      · have HD2 : Hid (evE s 0 i = k) := HD.out.trans (evE_stop s l k (fun h => hl (by have := UInt8.lt_iff_toNat_lt.1 h.2; omega)))
        have d1 : decide (l.toNat < (byte s k).toNat) = false := by simp; omega
        have d1' : decide (l < byte s k) = false := by simp [UInt8.lt_iff_toNat_lt]; omega
        rw [hd]
        clear hd HD
        go_wp2_with fail
        go_big_quiet (fail)
        go_wp2_with fail
        go_ret
        refine ⟨ret_str (by rw [HD2.out, extract_cut]), by rw [HD2.out]; exact Blk.drewN hpk _, hfr.drewNr _⟩
    · have hd' : isE (byte s k) = false := by simpa using hd
      have HD2 : Hid (evE s 0 i = k) := HD.out.trans (evE_stop s l k (fun h => hd h.1))
      rw [hd']
      clear hd hd' HD
      go_wp2_with fail
      go_big_quiet (fail)
      go_wp2_with fail
      go_ret
      refine ⟨ret_str (by rw [HD2.out, extract_cut]), by rw [HD2.out]; exact Blk.drewN hpk _, hfr.drewNr _⟩

theorem pv_all (s : ByteArray) (i : Nat) (h : isD (byte s i) = true) (h0 : byte s i ≠ 48) : pvF s (dend s i - i) i 0 = min (nval s i) 99 := by
  have h1 := dend_go s i h
  have h2 := dend_ge s (i + 1)
  have h3 := dgt_le h
  rw [show dend s i - i = (dend s i - (i + 1)) + 1 by omega]
  simp only [pvF, nval, if_neg h0, Nat.zero_mul, Nat.zero_add]
  rw [pvF_nvF]
  omega

set_option maxRecDepth 100000 in
set_option maxHeartbeats 400000 in
theorem readNumber_any (w : World) (b : Nat) (s : ByteArray) (i : Nat) (hp : RdB w b s i) (hs : s.size ≤ 1000000) (hn : i ≤ s.size) :
    Calls Tryd.prog 78 #[.pointer (some ⟨b, 0, none⟩)] w fun e w' =>
      (isD (byte s i) = true → e = .returned (.tuple #[.int .i64 (min (nval s i) 99 : Nat), .bool true]) ∧ RdB w' b s (nend s i)) ∧
      (isD (byte s i) = false → e = .returned (.tuple #[.int .i64 0, .bool false]) ∧ RdB w' b s i) ∧ Fr (· = b) w w' := by
  by_cases hb : byte s i = 48
  · have HB : Hid (byte s i = 48) := hb
    clear hb
    go_enter Tryd.func78, Tryd.ntmps78
    go_wp2_with fail
    refine (skip_yes _ b s 48 _ rfl i hp hs (by decide) HB.out).mono ?_
    rintro e w1 ⟨rfl, hp1, hf1⟩
    go_wp2_with fail
    go_ret2
    refine ⟨fun _ => ⟨?_, ?_⟩, fun h => ?_, hf1⟩
    · rw [nval, if_pos HB.out]; rfl
    · rw [nend, if_pos HB.out]; exact hp1
    · rw [HB.out] at h; exact absurd h (by decide)
  · have HB : Hid (byte s i ≠ 48) := hb
    clear hb
    go_enter Tryd.func78, Tryd.ntmps78
    go_wp2_with fail
    refine (skip_no _ b s 48 _ rfl i hp HB.out).mono ?_
    rintro e w1 ⟨rfl, hp1, hf1⟩
    obtain ⟨c0, c1, -⟩ := hp1.cells
    go_wp2_with fail
    refine (next_any _ b s i hp1).mono ?_
    rintro e w2 ⟨rfl, n1, rfl⟩
    go_wp2_with fail
    clear c0 c1
    go_loopg [5, 6] (s.size + 1 - i) (fun g vn ve wr => ∃ (k n : Nat), i ≤ k ∧ k ≤ s.size ∧ n ≤ 99 ∧ Hid (dend s i = dend s k) ∧ Hid (pvF s (dend s i - i) i 0 = pvF s (dend s i - k) k n) ∧ vn = .int .i64 n ∧ ve = .int .u8 (byte s k).toNat ∧ RdB wr b s k ∧ Fr (· = b) w wr ∧ s.size + 1 - k ≤ g ∧ Hid (k = i → n = 0))
    case atStart => exact ⟨i, 0, Nat.le_refl _, hn, by omega, rfl, rfl, rfl, rfl, Blk.drewN hp1 n1, hf1.drewNr n1, Nat.le_refl _, fun _ => rfl⟩
    case round =>
      obtain ⟨k, n, hk1, hk2, hn9, HD, HP, rfl, rfl, hpk, hfr, hg, HZ⟩ := hrel
      obtain ⟨c0, c1, hfz⟩ := hpk.cells
      have hf1' := hfz 1
      clear hfz
      go_wp2_with fail
      refine (isDigit_any _ (byte s k)).mono ?_
      rintro e w2 ⟨rfl, rfl⟩
      by_cases hd : isD (byte s k) = true
      · obtain ⟨hks, hgo⟩ := dend_go s k hd
        have hge := dend_ge s (k + 1)
        obtain ⟨d9, dv⟩ := dgt_le hd
        have HP2 : Hid (pvF s (dend s i - i) i 0 = pvF s (dend s i - (k + 1)) (k + 1) (min (n * 10 + dgt (byte s k)) 99)) := by
          show _ = _
          have h1 := HD.out
          rw [HP.out, show dend s i - k = (dend s i - (k + 1)) + 1 by omega]
          rfl
        have HD2 : Hid (dend s i = dend s (k + 1)) := HD.out.trans hgo
        rw [hd]
        clear hgo hge HD HP hd
        have dvI : ((byte s k).toNat : Int) = 48 + (dgt (byte s k) : Int) := by omega
        have HB2 : Hid (byte s k = byte s k) := rfl
        rw [dv]
        generalize hdd : dgt (byte s k) = d at *
        by_cases h99 : (n : Int) * 10 + d > 99
        · have HM : Hid (min (n * 10 + d) 99 = 99) := by show _ = _; omega
          go_wp2_with fail
          refine (next_any _ b s (k + 1) (by exact Blk.set hpk 1 _)).mono ?_
          rintro e w3 ⟨rfl, n3, rfl⟩
          go_wp2_with fail
          go_roundg (s.size + 1 - (k + 1))
          case measure => omega
          case rel => exact ⟨k + 1, 99, by omega, by omega, by omega, HD2, (by rw [← HM.out]; exact HP2), rfl, rfl, Blk.drewN (Blk.set hpk 1 _) n3, (hfr.setCellr _ _ (Or.inl rfl)).drewNr n3, Nat.le_refl _, fun h => by omega⟩
        · have HM : Hid (min (n * 10 + d) 99 = n * 10 + d) := by show _ = _; omega
          have h99' : ¬ (n : Int) * 10 + (48 + d - 48) > 99 := by omega
          go_wp2_with fail
          refine (next_any _ b s (k + 1) (by exact Blk.set hpk 1 _)).mono ?_
          rintro e w3 ⟨rfl, n3, rfl⟩
          go_wp2_with fail
          go_roundg (s.size + 1 - (k + 1))
          case measure => omega
          case rel => exact ⟨k + 1, n * 10 + d, by omega, by omega, by omega, HD2, (by rw [← HM.out]; exact HP2), by go_num, rfl, Blk.drewN (Blk.set hpk 1 _) n3, (hfr.setCellr _ _ (Or.inl rfl)).drewNr n3, Nat.le_refl _, fun h => by omega⟩
      · have hd' : isD (byte s k) = false := by simpa using hd
        have HE : Hid (dend s i = k) := HD.out.trans (dend_stop s k hd')
        have HV : Hid (pvF s (dend s i - i) i 0 = n) := by
          show _ = _
          rw [HP.out, HE.out, Nat.sub_self]; rfl
        have HN : Hid (isD (byte s k) = false) := hd'
        rw [hd']
        clear hd hd' HD HP
        by_cases hki : k = i
        · subst hki
          have hz := HZ.out rfl
          subst hz
          go_wp2_with fail
          go_region
          all_goals
            go_wp2_with fail
            go_ret2
            refine ⟨fun h => ?_, fun _ => ⟨rfl, ?_⟩, ?_⟩
            · rw [HN.out] at h; cases h
            · first | exact hpk | exact Blk.drew hpk | exact Blk.drewN hpk _
            · first | exact hfr | exact hfr.drewr | exact hfr.drewNr _
        · have hgt : (i : Int) < k := by omega
          have HI : Hid (isD (byte s i) = true) := dend_in s i i (Nat.le_refl _) (by rw [HE.out]; omega)
          go_wp2_with fail
          go_region
          all_goals
            go_wp2_with fail
            go_ret2
            refine ⟨fun h => ⟨?_, ?_⟩, fun h => ?_, ?_⟩
            · rw [← pv_all s i h HB.out, HV.out]; rfl
            · rw [nend, if_neg HB.out, HE.out]; first | exact hpk | exact Blk.drew hpk | exact Blk.drewN hpk _
            · rw [HI.out] at h; cases h
            · first | exact hfr | exact hfr.drewr | exact hfr.drewNr _

set_option maxRecDepth 100000 in
set_option maxHeartbeats 400000 in
theorem readCell_any (w : World) (b : Nat) (s : ByteArray) (i : Nat) (hp : RdB w b s i) (hs : s.size ≤ 1000000) (hn : i ≤ s.size) :
    Calls Tryd.prog 87 #[.pointer (some ⟨b, 0, none⟩)] w fun e w' =>
      ((cellP s i).1 = true → e = .returned (.tuple #[.agg #[.int .i64 (min (cellP s i).2.2.dst 99 : Nat), .string (cellP s i).2.2.acts], .bool true])) ∧
      ((cellP s i).1 = false → e = .returned (.tuple #[.agg #[.int .i64 0, .string ⟨#[]⟩], .bool false])) ∧ RdB w' b s (cellP s i).2.1 ∧ Fr (· = b) w w' := by
  have hbl := Blk.lt hp
  have hrb := Blk.new w #[Value.int IntKind.i64 0, Value.string ⟨#[]⟩] 95
  have hpa : RdB (w.alloc (Obj.cells #[Value.int IntKind.i64 0, Value.string ⟨#[]⟩] 95)) b s i := Blk.alloc hp _
  have hfa : Fr (· = b) w (w.alloc (Obj.cells #[Value.int IntKind.i64 0, Value.string ⟨#[]⟩] 95)) := (Fr.refl _ _).allocr _
  go_enter Tryd.func87, Tryd.ntmps87
  go_wp2_with fail
  generalize w.alloc (Obj.cells #[Value.int IntKind.i64 0, Value.string ⟨#[]⟩] 95) = W at hrb hpa hfa ⊢
  refine (readNumber_any _ b s i hpa hs hn).mono ?_
  rintro e w1 ⟨hyes, hno, hf1⟩
  have hrb1 := Blk.fr hrb hf1 (by omega)
  have hfr1 := hfa.thenr hf1 (fun _ _ h => h)
  clear hrb hpa hfa hf1
  by_cases hd : isD (byte s i) = true
  · obtain ⟨rfl, hp1⟩ := hyes hd
    have HD : Hid (¬ isD (byte s i) = false) := by show ¬ _; rw [hd]; simp
    have hbd := nend_bd s i hd
    clear hyes hno hd
    by_cases h58 : byte s (nend s i) = 58
    · have HE : Hid (cellP s i = (true, dend s (nend s i + 1), ⟨nval s i, cut s (nend s i + 1) (dend s (nend s i + 1))⟩)) := by show _ = _; rw [cellP, if_neg HD.out, if_neg (fun h => h h58)]
      have H58 : Hid (byte s (nend s i) = 58) := h58
      have hin := sg_in s 58 _ (by decide) h58
      clear h58
      go_wp2_with fail
      refine (skip_yes _ b s 58 _ rfl _ hp1 hs (by decide) H58.out).mono ?_
      rintro e w2 ⟨rfl, hp2, hf2⟩
      have hrb2 := Blk.fr hrb1 hf2 (by omega)
      have hfr2 := hfr1.thenr hf2 (fun _ _ h => h)
      clear hrb1 hfr1 hf2 hp1
      go_wp2_with fail
      refine (readActions_any _ b s _ hp2 hs hin).mono ?_
      rintro e w3 ⟨rfl, hp3, hf3⟩
      have hrb3 := Blk.fr hrb2 hf3 (by omega)
      have hfr3 := hfr2.thenr hf3 (fun _ _ h => h)
      clear hrb2 hfr2 hf3 hp2
      have r0 : w3.cell? ⟨w.heap.size, 0, none⟩ = some (.int .i64 0) := by rw [Blk.cell hrb3]; rfl
      have r1 : w3.cell? ⟨w.heap.size, 1, none⟩ = some (.string ⟨#[]⟩) := by rw [Blk.cell hrb3]; rfl
      have z0 := Blk.frozen hrb3 0
      have z1 := Blk.frozen hrb3 1
      go_wp2_with fail
      refine bodyPost_ret (v := .tuple #[.agg #[.int .i64 (min (nval s i) 99 : Nat), .string (cut s (nend s i + 1) (dend s (nend s i + 1)))], .bool true]) (by simp [results, Tryd.results87, go_sem, r0, r1]) rfl ⟨fun _ => ?_, fun h => ?_, ?_, ?_⟩
      · rw [HE.out]
      · rw [HE.out] at h; cases h
      · rw [HE.out]; exact Blk.other (Blk.other hp3 _ _ (by show b ≠ w.heap.size; omega)) _ _ (by show b ≠ w.heap.size; omega)
      · exact (hfr3.setCellr _ _ (Or.inr (Nat.le_refl _))).setCellr _ _ (Or.inr (Nat.le_refl _))
    · have HE : Hid (cellP s i = (false, nend s i, ⟨0, ⟨#[]⟩⟩)) := by show _ = _; rw [cellP, if_neg HD.out, if_pos h58]
      have H58 : Hid (byte s (nend s i) ≠ 58) := h58
      clear h58
      go_wp2_with fail
      refine (skip_no _ b s 58 _ rfl _ hp1 H58.out).mono ?_
      rintro e w2 ⟨rfl, hp2, hf2⟩
      have hrb2 := Blk.fr hrb1 hf2 (by omega)
      have hfr2 := hfr1.thenr hf2 (fun _ _ h => h)
      clear hrb1 hfr1 hf2 hp1
      have r0 : w2.cell? ⟨w.heap.size, 0, none⟩ = some (.int .i64 0) := by rw [Blk.cell hrb2]; rfl
      have r1 : w2.cell? ⟨w.heap.size, 1, none⟩ = some (.string ⟨#[]⟩) := by rw [Blk.cell hrb2]; rfl
      have z0 := Blk.frozen hrb2 0
      have z1 := Blk.frozen hrb2 1
      go_wp2_with fail
      refine bodyPost_ret (v := .tuple #[.agg #[.int .i64 0, .string ⟨#[]⟩], .bool false]) (by simp [results, Tryd.results87, go_sem, r0, r1]) rfl ⟨fun h => ?_, fun _ => rfl, ?_, ?_⟩
      · rw [HE.out] at h; cases h
      · rw [HE.out]; exact Blk.other (Blk.other hp2 _ _ (by show b ≠ w.heap.size; omega)) _ _ (by show b ≠ w.heap.size; omega)
      · exact (hfr2.setCellr _ _ (Or.inr (Nat.le_refl _))).setCellr _ _ (Or.inr (Nat.le_refl _))
  · have hd' : isD (byte s i) = false := by simpa using hd
    obtain ⟨rfl, hp1⟩ := hno hd'
    have HE : Hid (cellP s i = (false, i, ⟨0, ⟨#[]⟩⟩)) := by show _ = _; rw [cellP, if_pos hd']
    clear hyes hno hd hd'
    have r0 : w1.cell? ⟨w.heap.size, 0, none⟩ = some (.int .i64 0) := by rw [Blk.cell hrb1]; rfl
    have r1 : w1.cell? ⟨w.heap.size, 1, none⟩ = some (.string ⟨#[]⟩) := by rw [Blk.cell hrb1]; rfl
    have z0 := Blk.frozen hrb1 0
    have z1 := Blk.frozen hrb1 1
    go_wp2_with fail
    refine bodyPost_ret (v := .tuple #[.agg #[.int .i64 0, .string ⟨#[]⟩], .bool false]) (by simp [results, Tryd.results87, go_sem, r0, r1]) rfl ⟨fun h => ?_, fun _ => rfl, ?_, ?_⟩
    · rw [HE.out] at h; cases h
    · rw [HE.out]; exact Blk.other (Blk.other hp1 _ _ (by show b ≠ w.heap.size; omega)) _ _ (by show b ≠ w.heap.size; omega)
    · exact (hfr1.setCellr _ _ (Or.inr (Nat.le_refl _))).setCellr _ _ (Or.inr (Nat.le_refl _))
end Go.Proofs.YtmolmbeeoecnfabDoor

/- Own work: walks of the program's table reader: readCells. -/
namespace Go.Proofs.YtmolmbeeoecnfabDoor
open Go.RowKit Go.BigFrame
set_option linter.unusedVariables false
set_option linter.unusedSimpArgs false

def clQ (x : Cl) : List Value := [.int .i64 (min x.dst 99 : Nat), .string x.acts]
theorem clQ_len (x : Cl) : (clQ x).length = 2 := rfl
theorem elemCell : ElemOk Tryd.prog 90 95 2 24 where
  ht := Tryd.underlying90
  info := by
    obtain ⟨i, h0, h1, h2, h3⟩ := info_parts (show (Tryd.prog.info? 95).map (fun i => (i.zero, i.size, i.bytes)) = some (some (.agg #[.int .i64 0, .string ⟨#[]⟩]), 2, 24) by kernel_rfl)
    exact ⟨i, _, h0, h1, h2, h3, rfl⟩
  pos := by decide

theorem clF_go (s : ByteArray) (wd k : Nat) (a : List Cl) (h : a.length < wd) (hc : a = [] ∨ byte s k = 44) (hk : (cellP s (clJ a k)).1 = true) :
    clF s (wd - a.length) k a = clF s (wd - (a ++ [(cellP s (clJ a k)).2.2]).length) (cellP s (clJ a k)).2.1 (a ++ [(cellP s (clJ a k)).2.2]) := by
  rw [show wd - a.length = (wd - (a ++ [(cellP s (clJ a k)).2.2]).length) + 1 by simp; omega]
  conv => lhs; simp only [clF]
  rw [if_neg (fun h => hc.elim h.1 h.2), if_neg (by simp [hk])]
theorem clF_bad (s : ByteArray) (wd k : Nat) (a : List Cl) (h : a.length < wd) (hc : a = [] ∨ byte s k = 44) (hk : (cellP s (clJ a k)).1 = false) :
    clF s (wd - a.length) k a = (false, (cellP s (clJ a k)).2.1, a) := by
  rw [show wd - a.length = (wd - (a.length + 1)) + 1 by omega]
  conv => lhs; simp only [clF]
  rw [if_neg (fun h => hc.elim h.1 h.2), if_pos hk]
theorem clF_no (s : ByteArray) (wd k : Nat) (a : List Cl) (h : a.length < wd) (h0 : a ≠ []) (hc : byte s k ≠ 44) :
    clF s (wd - a.length) k a = (false, k, a) := by
  rw [show wd - a.length = (wd - (a.length + 1)) + 1 by omega]
  conv => lhs; simp only [clF]
  rw [if_pos ⟨h0, hc⟩]

def ClPost (s : ByteArray) (b i wd : Nat) (w : World) (e : Ending) (w' : World) : Prop :=
  ∃ cv, e = .returned (.tuple #[cv, .bool (clF s wd i []).1]) ∧ RdB w' b s (clF s wd i []).2.1 ∧ Fr (· = b) w w' ∧ w'.ownsRow 0 95 2 cv (clF s wd i []).2.2.length ((clF s wd i []).2.2.flatMap clQ) ∧ (∀ k, cv.ownBlock = some k → w.heap.size ≤ k)

set_option maxRecDepth 100000 in
set_option maxHeartbeats 1000000 in
theorem readCells_any (w : World) (b : Nat) (s : ByteArray) (i wd : Nat) (hp : RdB w b s i) (hs : s.size ≤ 1000000) (hn : i ≤ s.size) (hw : wd ≤ s.size) :
    Calls Tryd.prog 79 #[.pointer (some ⟨b, 0, none⟩), .int .i64 wd] w (ClPost s b i wd w) := by
  have hbl := Blk.lt hp
  go_enter Tryd.func79, Tryd.ntmps79
  go_wp2_with fail
  go_loopg [6] (s.size + 1 - i) (fun g vc wr => ∃ (k : Nat) (a : List Cl) (cv : Value), RdB wr b s k ∧ Fr (· = b) w wr ∧ wr.ownsRow 0 95 2 cv a.length (a.flatMap clQ) ∧ (∀ j, cv.ownBlock = some j → w.heap.size ≤ j) ∧ vc = cv ∧ Hid (clF s wd i [] = clF s (wd - a.length) k a) ∧ a.length ≤ k ∧ k ≤ s.size ∧ s.size + 1 - k ≤ g ∧ a.length ≤ wd)
  case atStart =>
    refine ⟨i, [], _, Blk.alloc hp _, ((Fr.refl _ _).allocr _), World.ownsRow_made w #[] 0 (Nat.zero_le _) (Nat.zero_le _) rfl, ?_, rfl, rfl, Nat.zero_le _, hn, Nat.le_refl _, Nat.zero_le _⟩
    intro j hj
    simp only [Value.ownBlock, Option.some.injEq] at hj
    omega
  case round =>
    obtain ⟨k, a, cv, hpk, hfr, hrow, hlo, hcv, HC, hak, hks, hg, haw⟩ := hrel
    subst hcv
    obtain ⟨ca, cc, hcv⟩ := row_len hrow
    subst hcv
    have hblk := Blk.lt hpk
    by_cases hw1 : (a.length : Int) < wd
    · by_cases ha : a = []
      · have HA : Hid (a = [] ∨ byte s k = 44) := Or.inl ha
        have HJ : Hid (clJ a k = k) := by show _ = _; rw [clJ, if_pos ha]
        have hl0 : decide (0 < a.length) = false := by rw [ha]; rfl
        have hpJ := hpk
        have hfrJ := hfr
        have hrowJ := hrow
        have hjs : k ≤ s.size := hks
        clear ha hpk hfr hrow
        go_wp2_with fail
        refine (readCell_any _ b s (k) hpJ hs hjs).mono ?_
        rintro e w2 ⟨hyes, hno, hp2, hf2⟩
        have hbd := cellP_bd s (k) hjs
        have hfr2 := hfrJ.thenr hf2 (fun _ _ h => h)
        have hrow2 := row_fr hrowJ hf2 (fun j hj e => by have := hlo j hj; omega)
        clear hpJ hfrJ hrowJ hf2
        by_cases hok : (cellP s (k)).1 = true
        · have HE : Hid _ := hyes hok
          have hlt := hbd.2.2 hok
          have HC2 : Hid _ := HC.out.trans (clF_go s wd k a (by omega) HA.out (by rw [HJ.out]; exact hok))
          clear hyes hno hok HC
          rw [HE.out]
          clear HE
          generalize hcx : (cellP s (k)).2.2 = cx at *
          generalize hkx : (cellP s (k)).2.1 = kx at *
          have HC3 : Hid (clF s wd i [] = clF s (wd - (a ++ [cx]).length) kx (a ++ [cx])) := by show _ = _; rw [HC2.out, HJ.out, hcx, hkx]
          clear HC2 hcx hkx
          go_wp2_with (at_builtin; go_must (refine wpList_append1 rfl _ _ _ rfl _ 2 24 elemCell _ a.length (a.flatMap clQ) rfl (by exact (hrow2.alloc _).alloc _) ⟨w2.heap.size + 1, 0, none⟩ 1 (clQ cx) rfl rfl (by exact cells_new (Blk.new' _ _ _ _ (by simp))) (by intro u hu; simp [clQ] at hu; rcases hu with rfl | rfl <;> rfl) (by unfold maxLen; omega) (by omega) ?_); intro g cap w3 hrow3 hgrow hgo)
          have hG3 : Fr (fun j => (Value.slice ca a.length cc).ownBlock = some j) _ w3 := Fr.grown (fun j => (Value.slice ca a.length cc).ownBlock = some j) hgrow (fun _ e => e)
          have hp3 : RdB w3 b s kx := Blk.fr (Blk.alloc (Blk.alloc hp2 _) _) hG3 (fun e => by have := hlo b e; omega)
          have hfr3 : Fr (· = b) w w3 := ((hfr2.allocr _).allocr _).thenr hG3 (fun j hj e => by have := hlo j e; omega)
          have hlo3 : w.heap.size ≤ g := by
            rcases hgo with e | e
            · exact hlo g e
            · have := hfr2.size; simp at e; omega
          go_roundg (s.size + 1 - kx)
          case measure => omega
          case rel =>
            refine ⟨kx, a ++ [cx], _, hp3, hfr3, ?_, ?_, rfl, HC3, by simp; omega, by omega, Nat.le_refl _, by simp; omega⟩
            · simpa using hrow3
            · intro j hj
              simp only [Value.ownBlock, Option.some.injEq] at hj
              omega
        · have hok' : (cellP s (k)).1 = false := by simpa using hok
          have HE : Hid _ := hno hok'
          have HC2 : Hid (clF s wd i [] = (false, (cellP s (k)).2.1, a)) := by show _ = _; rw [HC.out, clF_bad s wd k a (by omega) HA.out (by rw [HJ.out]; exact hok'), HJ.out]
          clear hyes hno hok hok' HC
          rw [HE.out]
          clear HE
          go_wp2_with fail
          go_ret2
          exact ⟨_, by rw [HC2.out]; rfl, by rw [HC2.out]; exact Blk.alloc hp2 _, hfr2.allocr _, by rw [HC2.out]; exact hrow2.alloc _, hlo⟩
      · have hl0 : (0 : Int) < a.length := by
          have := List.length_pos_iff.2 ha; omega
        by_cases h44 : byte s k = 44
        · have HA : Hid (a = [] ∨ byte s k = 44) := Or.inr h44
          have HJ : Hid (clJ a k = k + 1) := by show _ = _; rw [clJ, if_neg ha]
          have H44 : Hid (byte s k = 44) := h44
          have hjs : k + 1 ≤ s.size := sg_in s 44 k (by decide) h44
          clear ha h44
          go_wp2_with fail
          refine (skip_yes _ b s 44 _ rfl k hpk hs (by decide) H44.out).mono ?_
          rintro e w1 ⟨rfl, hpJ, hf1⟩
          have hfrJ := hfr.thenr hf1 (fun _ _ h => h)
          have hrowJ := row_fr hrow hf1 (fun j hj e => by have := hlo j hj; omega)
          clear hpk hfr hrow hf1
          go_wp2_with fail
          refine (readCell_any _ b s (k + 1) hpJ hs hjs).mono ?_
          rintro e w2 ⟨hyes, hno, hp2, hf2⟩
          have hbd := cellP_bd s (k + 1) hjs
          have hfr2 := hfrJ.thenr hf2 (fun _ _ h => h)
          have hrow2 := row_fr hrowJ hf2 (fun j hj e => by have := hlo j hj; omega)
          clear hpJ hfrJ hrowJ hf2
          by_cases hok : (cellP s (k + 1)).1 = true
          · have HE : Hid _ := hyes hok
            have hlt := hbd.2.2 hok
            have HC2 : Hid _ := HC.out.trans (clF_go s wd k a (by omega) HA.out (by rw [HJ.out]; exact hok))
            clear hyes hno hok HC
            rw [HE.out]
            clear HE
            generalize hcx : (cellP s (k + 1)).2.2 = cx at *
            generalize hkx : (cellP s (k + 1)).2.1 = kx at *
            have HC3 : Hid (clF s wd i [] = clF s (wd - (a ++ [cx]).length) kx (a ++ [cx])) := by show _ = _; rw [HC2.out, HJ.out, hcx, hkx]
            clear HC2 hcx hkx
            go_wp2_with (at_builtin; go_must (refine wpList_append1 rfl _ _ _ rfl _ 2 24 elemCell _ a.length (a.flatMap clQ) rfl (by exact (hrow2.alloc _).alloc _) ⟨w2.heap.size + 1, 0, none⟩ 1 (clQ cx) rfl rfl (by exact cells_new (Blk.new' _ _ _ _ (by simp))) (by intro u hu; simp [clQ] at hu; rcases hu with rfl | rfl <;> rfl) (by unfold maxLen; omega) (by omega) ?_); intro g cap w3 hrow3 hgrow hgo)
            have hG3 : Fr (fun j => (Value.slice ca a.length cc).ownBlock = some j) _ w3 := Fr.grown (fun j => (Value.slice ca a.length cc).ownBlock = some j) hgrow (fun _ e => e)
            have hp3 : RdB w3 b s kx := Blk.fr (Blk.alloc (Blk.alloc hp2 _) _) hG3 (fun e => by have := hlo b e; omega)
            have hfr3 : Fr (· = b) w w3 := ((hfr2.allocr _).allocr _).thenr hG3 (fun j hj e => by have := hlo j e; omega)
            have hlo3 : w.heap.size ≤ g := by
              rcases hgo with e | e
              · exact hlo g e
              · have := hfr2.size; simp at e; omega
            go_roundg (s.size + 1 - kx)
            case measure => omega
            case rel =>
              refine ⟨kx, a ++ [cx], _, hp3, hfr3, ?_, ?_, rfl, HC3, by simp; omega, by omega, Nat.le_refl _, by simp; omega⟩
              · simpa using hrow3
              · intro j hj
                simp only [Value.ownBlock, Option.some.injEq] at hj
                omega
          · have hok' : (cellP s (k + 1)).1 = false := by simpa using hok
            have HE : Hid _ := hno hok'
            have HC2 : Hid (clF s wd i [] = (false, (cellP s (k + 1)).2.1, a)) := by show _ = _; rw [HC.out, clF_bad s wd k a (by omega) HA.out (by rw [HJ.out]; exact hok'), HJ.out]
            clear hyes hno hok hok' HC
            rw [HE.out]
            clear HE
            go_wp2_with fail
            go_ret2
            exact ⟨_, by rw [HC2.out]; rfl, by rw [HC2.out]; exact Blk.alloc hp2 _, hfr2.allocr _, by rw [HC2.out]; exact hrow2.alloc _, hlo⟩
        · have HC2 : Hid (clF s wd i [] = (false, k, a)) := HC.out.trans (clF_no s wd k a (by omega) ha h44)
          have H44 : Hid (byte s k ≠ 44) := h44
          clear ha h44 HC
          go_wp2_with fail
          refine (skip_no _ b s 44 _ rfl k hpk H44.out).mono ?_
          rintro e w1 ⟨rfl, hp1, hf1⟩
          have hrow1 := row_fr hrow hf1 (fun j hj e => by have := hlo j hj; omega)
          go_wp2_with fail
          go_ret2
          exact ⟨_, by rw [HC2.out]; rfl, by rw [HC2.out]; exact hp1, hfr.thenr hf1 (fun _ _ h => h), by rw [HC2.out]; exact hrow1, hlo⟩
    · have HC2 : Hid (clF s wd i [] = (true, k, a)) := by
        show _ = _
        rw [HC.out, show wd - a.length = 0 by omega]; rfl
      have d0 : decide (a.length < wd) = false := by simp; omega
      go_wp2_with fail
      go_ret2
      exact ⟨_, by rw [HC2.out]; rfl, by rw [HC2.out]; exact hpk, hfr, by rw [HC2.out]; exact hrow, hlo⟩
end Go.Proofs.YtmolmbeeoecnfabDoor
