/- Own work: walks of the document's table reader: num. -/
import Derived.Test.YtmolmbeeoecnfaaTP1
namespace Go.Proofs.Ytmolmbeeoecnfaa
open Go.RowKit Go.BigFrame
set_option linter.unusedVariables false
set_option linter.unusedSimpArgs false

theorem tkOk_D (s : ByteArray) (i : Nat) : tkOk s 48 57 i = isD (byte s i) := by
  unfold tkOk
  by_cases h : i < s.size
  · simp [h, isD]
  · rw [byte_out s i h]; simp [h, isD]
theorem tkOk_1 (s : ByteArray) (c : UInt8) (i : Nat) (h0 : c ≠ 0) : tkOk s c c i = decide (byte s i = c) := by
  unfold tkOk
  by_cases h : i < s.size
  · simp only [h, decide_true, Bool.true_and]
    rw [Bool.eq_iff_iff]
    simp only [Bool.and_eq_true, decide_eq_true_eq, UInt8.le_iff_toNat_le, ← UInt8.toNat_inj]
    omega
  · rw [byte_out s i h]; simp [h, Ne.symm h0]

theorem byte_cut (s : ByteArray) (a b k : Nat) (hb : b ≤ s.size) (h : a + k < b) : byte (cut s a b) k = byte s (a + k) := by
  have h1 : k < (cut s a b).size := by rw [cut_size s a b (by omega) hb]; omega
  rw [byte_in _ k h1, byte_in s (a + k) (by omega)]
  have h2 : a + k < s.data.size := (by have : s.data.size = s.size := rfl; omega)
  show (cut s a b).data[k] = s.data[a + k]
  simp [cut]

set_option maxRecDepth 100000 in
set_option maxHeartbeats 400000 in
theorem num_bad (w : World) (b : Nat) (s : ByteArray) (i : Nat) (bad : Int) (v3 v4 v5 v6 : Value) (hp : PenB w b s i bad v3 v4 v5 v6) (hn : i ≤ 1000000) (hb : 0 ≤ bad) :
    Calls Try.prog 94 #[.pointer (some ⟨b, 0, none⟩)] w fun e w' => e = .returned (.int .i64 0) ∧ PenB w' b s i bad v3 v4 v5 v6 ∧ Fr (· = b) w w' := by
  go_enter Try.func94, Try.ntmps94
  go_wp2_with fail
  refine (take_at _ b s 48 57 48 57 rfl rfl i bad v3 v4 v5 v6 hp hn).mono ?_
  rintro e w1 ⟨rfl, hp1, hf1⟩
  rw [show tkC s 48 57 i bad = 0 by simp [tkC, hb]]
  rw [show tkI s 48 57 i bad = i by simp [tkI, hb], show tkB s 48 57 i bad = bad by simp [tkB, hb]] at hp1
  obtain ⟨-, -, c2, -⟩ := hp1.cells
  go_wp2_with fail
  first
    | (go_big_quiet (fail)
       go_wp2_with fail
       go_ret
       exact ⟨rfl, Blk.drewN hp1 _, hf1.drewNr _⟩)
    | (go_ret
       exact ⟨rfl, hp1, hf1⟩)

set_option maxRecDepth 100000 in
set_option maxHeartbeats 1000000 in
theorem num_good (w : World) (b : Nat) (s : ByteArray) (i : Nat) (v3 v4 v5 v6 : Value) (hp : PenB w b s i (-1) v3 v4 v5 v6) (hs : s.size ≤ 1000000) (hn : i ≤ s.size) :
    Calls Try.prog 94 #[.pointer (some ⟨b, 0, none⟩)] w fun e w' =>
      (isD (byte s i) = true → e = .returned (.int .i64 (nval s i)) ∧ PenB w' b s (nend s i) (-1) v3 v4 v5 v6) ∧
      (isD (byte s i) = false → e = .returned (.int .i64 0) ∧ PenB w' b s i i v3 v4 v5 v6) ∧ Fr (· = b) w w' := by
  go_enter Try.func94, Try.ntmps94
  go_wp2_with fail
  refine (take_at _ b s 48 57 48 57 rfl rfl i (-1) v3 v4 v5 v6 hp (by omega)).mono ?_
  rintro e w1 ⟨rfl, hp1, hf1⟩
  by_cases hd : isD (byte s i) = true
  · have hk : tkOk s 48 57 i = true := by rw [tkOk_D]; exact hd
    rw [show tkC s 48 57 i (-1) = byte s i by simp [tkC, hk]]
    rw [show tkI s 48 57 i (-1) = i + 1 by simp [tkI, hk], show tkB s 48 57 i (-1) = -1 by simp [tkB, hk]] at hp1
    have HD : Hid (isD (byte s i) = true) := hd
    obtain ⟨-, -, c2, -⟩ := hp1.cells
    by_cases h48 : byte s i = 48
    · have H48 : Hid (byte s i = 48) := h48
      rw [h48]
      clear hd hk h48
      go_wp2_with fail
      first
        | (go_big_quiet (fail)
           go_wp2_with fail
           go_ret
           exact ⟨fun _ => ⟨by rw [nval, if_pos H48.out]; rfl, by rw [nend, if_pos H48.out]; exact Blk.drewN hp1 _⟩, fun h => (by rw [HD.out] at h; cases h), hf1.drewNr _⟩)
        | (go_ret
           exact ⟨fun _ => ⟨by rw [nval, if_pos H48.out]; rfl, by rw [nend, if_pos H48.out]; exact hp1⟩, fun h => (by rw [HD.out] at h; cases h), hf1⟩)
    · have hne : (((byte s i).toNat : Int) == 48) = false := by
        rw [beq_eq_false_iff_ne]; intro h; exact h48 (UInt8.toNat_inj.1 (by show _ = 48; omega))
      obtain ⟨hks, hgo⟩ := dend_go s i hd
      have hge := dend_ge s (i + 1)
      have hle := dend_le s (i + 1) hks
      obtain ⟨d9, dv⟩ := dgt_le hd
      have HV : Hid (nval s i = min (nvF s (dend s (i + 1) - (i + 1)) (i + 1) (dgt (byte s i))) 1000000) := by show _ = _; rw [nval, if_neg h48, hgo]
      have HN : Hid (nend s i = dend s (i + 1)) := by show _ = _; rw [nend, if_neg h48, hgo]
      have hdp := dgt_pos hd h48
      clear hgo h48 hk hd hne
      rw [dv]
      generalize hdd : dgt (byte s i) = d at *
      have hne : ((48 : Int) + (d : Int) == 48) = false := by rw [beq_eq_false_iff_ne]; omega
      go_wp2_with fail
      refine (digits_any _ b s (i + 1) (-1) v3 v4 v5 v6 hp1 hs hks).mono ?_
      rintro e w2 ⟨rfl, hp2, hf2⟩
      rw [show dgI s (i + 1) (-1) = dend s (i + 1) by simp [dgI]] at hp2
      rw [show dgS s (i + 1) (-1) = cut s (i + 1) (dend s (i + 1)) by simp [dgS, dgI]]
      have hfr2 := hf1.thenr hf2 (fun _ _ h => h)
      generalize hE : dend s (i + 1) = E at *
      have hts : (cut s (i + 1) E).size = E - (i + 1) := cut_size s (i + 1) E hge hle
      have HB : Hid (∀ k, k < E - (i + 1) → byte (cut s (i + 1) E) k = byte s (i + 1 + k) ∧ isD (byte s (i + 1 + k)) = true) := by
        intro k hk
        exact ⟨byte_cut s (i + 1) E k hle (by omega), dend_in s (i + 1) (i + 1 + k) (by omega) (by omega)⟩
      have HTS : Hid _ := hts
      generalize cut s (i + 1) E = t at *
      clear hp1 hf1 hf2 hts c2
      have htl : t.size ≤ 1000000 := by have := HTS.out; omega
      go_wp2_with fail
      go_loopg [4, 6] (t.size + 1) (fun g vn vi wr => ∃ (k n : Nat), k ≤ t.size ∧ vn = .int .i64 n ∧ vi = .int .i64 k ∧ n < 10000000 ∧ wr = w2 ∧ Hid (nvF s (E - (i + 1)) (i + 1) d = nvF s (t.size - k) (i + 1 + k) n) ∧ t.size + 1 - k ≤ g)
      case atStart => exact ⟨0, d, Nat.zero_le _, by go_num, rfl, by omega, rfl, (by rw [HTS.out]; rfl), Nat.le_refl _⟩
      case round =>
        obtain ⟨k, n, hk, rfl, rfl, hnb, rfl, HP, hg⟩ := hrel
        by_cases hlt : (k : Int) < t.size
        · have hlt' : k < t.size := by omega
          obtain ⟨hbk, hdk⟩ := HB.out k (by have := HTS.out; omega)
          obtain ⟨e9, ev⟩ := dgt_le hdk
          rw [byte_in t k hlt'] at hbk
          have evI : ((t[k]).toNat) = 48 + dgt (byte s (i + 1 + k)) := by rw [hbk]; exact ev
          have HP2 : Hid (nvF s (E - (i + 1)) (i + 1) d = nvF s (t.size - (k + 1)) (i + 1 + (k + 1)) (if n < 1000000 then n * 10 + dgt (byte s (i + 1 + k)) else n)) := by
            show _ = _
            rw [HP.out, show t.size - k = (t.size - (k + 1)) + 1 by omega]
            rfl
          clear hbk hdk ev HP
          generalize dgt (byte s (i + 1 + k)) = c at *
          have evII : ((t[k]).toNat : Int) = 48 + (c : Int) := by omega
          by_cases hlg : (n : Int) < 1000000
          · have HI : Hid ((if n < 1000000 then n * 10 + c else n) = n * 10 + c) := by show _ = _; rw [if_pos (by omega)]
            go_wp2_with fail
            go_roundg (t.size + 1 - (k + 1))
            case measure => omega
            case rel => exact ⟨k + 1, n * 10 + c, by omega, by go_num, by go_num, by omega, rfl, (by rw [← HI.out]; exact HP2), Nat.le_refl _⟩
          · have hlg' : decide (n < 1000000) = false := by simp; omega
            have HI : Hid ((if n < 1000000 then n * 10 + c else n) = n) := by show _ = _; rw [if_neg (by omega)]
            go_wp2_with fail
            go_roundg (t.size + 1 - (k + 1))
            case measure => omega
            case rel => exact ⟨k + 1, n, by omega, rfl, by go_num, hnb, rfl, (by rw [← HI.out]; exact HP2), Nat.le_refl _⟩
        · have HP2 : Hid (nval s i = min n 1000000) := by
            show _ = _
            rw [HV.out, HP.out, show t.size - k = 0 by omega]
            rfl
          by_cases hlg : (1000000 : Int) < n
          · go_wp2_with fail
            go_ret
            exact ⟨fun _ => ⟨by rw [HP2.out, show min n 1000000 = 1000000 by omega]; rfl, by rw [HN.out]; exact hp2⟩, fun h => (by rw [HD.out] at h; cases h), hfr2⟩
          · have hlg' : decide (1000000 < n) = false := by simp; omega
            go_wp2_with fail
            go_ret
            exact ⟨fun _ => ⟨by rw [HP2.out, show min n 1000000 = n by omega]; rfl, by rw [HN.out]; exact hp2⟩, fun h => (by rw [HD.out] at h; cases h), hfr2⟩
  · have hd' : isD (byte s i) = false := by simpa using hd
    have hk : tkOk s 48 57 i = false := by rw [tkOk_D]; exact hd'
    rw [show tkC s 48 57 i (-1) = 0 by simp [tkC, hk]]
    rw [show tkI s 48 57 i (-1) = i by simp [tkI, hk], show tkB s 48 57 i (-1) = i by simp [tkB, hk]] at hp1
    have HD : Hid (isD (byte s i) = false) := hd'
    obtain ⟨-, -, c2, -⟩ := hp1.cells
    clear hd hd' hk
    go_wp2_with fail
    first
      | (go_big_quiet (fail)
         go_wp2_with fail
         go_ret
         exact ⟨fun h => (by rw [HD.out] at h; cases h), fun _ => ⟨rfl, Blk.drewN hp1 _⟩, hf1.drewNr _⟩)
      | (go_ret
         exact ⟨fun h => (by rw [HD.out] at h; cases h), fun _ => ⟨rfl, hp1⟩, hf1⟩)
end Go.Proofs.Ytmolmbeeoecnfaa
