/- Own work: walks of the document's reader: digits, acts. -/
import Derived.Test.YtmolmbeeoecnfaaPen1
namespace Go.Proofs.Ytmolmbeeoecnfaa
open Go.RowKit Go.BigFrame
set_option linter.unusedVariables false
set_option linter.unusedSimpArgs false

set_option maxRecDepth 100000 in
set_option maxHeartbeats 400000 in
theorem digits_good (w : World) (b : Nat) (s : ByteArray) (i : Nat) (bad : Int) (v3 v4 v5 v6 : Value) (hp : PenB w b s i bad v3 v4 v5 v6) (hs : s.size ≤ 1000000) (hn : i ≤ s.size) (hb : bad < 0) :
    Calls Try.prog 67 #[.pointer (some ⟨b, 0, none⟩)] w fun e w' => e = .returned (.string (cut s i (dend s i))) ∧
      PenB w' b s (dend s i) bad v3 v4 v5 v6 ∧ Fr (· = b) w w' := by
  go_enter Try.func67, Try.ntmps67
  go_wp2_with fail
  refine (ahead_any _ b s i bad v3 v4 v5 v6 hp).mono ?_
  rintro e w1 ⟨rfl, n, rfl⟩
  go_wp2_with fail
  go_loopw [3, 4] (fun vs vc wr => ∃ k : Nat, i ≤ k ∧ k ≤ s.size ∧ Hid (dend s i = dend s k) ∧ vs = .string (cut s i k) ∧ vc = .int .u8 (ahd s k bad).toNat ∧ PenB wr b s k bad v3 v4 v5 v6 ∧ Fr (· = b) w wr) (fun vs _ _ => s.size - strLen vs)
  case atStart => exact ⟨i, Nat.le_refl _, hn, rfl, by rw [cut_self]; rfl, rfl, hp, by (repeat (first | exact Fr.refl _ _ | assumption | refine Fr.drewNr ?_ _ | refine Fr.drewr ?_ | refine Fr.allocr ?_ _ | refine Fr.setCellr ?_ _ _ (by first | exact Or.inl rfl | (right; simp; done) | (right; simp; omega))))⟩
  case round =>
    obtain ⟨k, hk1, hk2, HD, rfl, rfl, hpk, hfr⟩ := hrel
    have hea : ahd s k bad = byte s k := by rw [ahd, if_pos hb]
    rw [hea]
    clear hea
    obtain ⟨c0, c1, c2, -, -, -, -, hfz⟩ := hpk.cells
    have hf1 := hfz 1
    have hbl := Blk.lt hpk
    clear hfz
    by_cases hd : isD (byte s k) = true
    · obtain ⟨hks, hgo⟩ := dend_go s k hd
      have HD2 : Hid (dend s i = dend s (k + 1)) := HD.out.trans hgo
      have HC : Hid _ := cut_snoc s i k hk1 hks
      have HZ : Hid _ := cut_size s i (k + 1) (by omega) (by omega)
      have hsz : (cut s i k).size ≤ 1000000 := by rw [cut_size s i k hk1 hk2]; omega
      obtain ⟨d1, d2⟩ := (isD_iff _).1 hd
      clear hgo HD hd
      go_wp2_with fail
      refine (ahead_any _ b s (k + 1) bad v3 v4 v5 v6 (by exact Blk.alloc (Blk.set hpk 1 _) _)).mono ?_
      rintro e w2 ⟨rfl, m, rfl⟩
      go_wp2_with fail
      go_roundw
      case rel => exact ⟨k + 1, by omega, by omega, HD2, by rw [HC.out], rfl, Blk.drewN (Blk.alloc (Blk.set hpk 1 _) _) _, by (repeat (first | exact Fr.refl _ _ | assumption | refine Fr.drewNr ?_ _ | refine Fr.drewr ?_ | refine Fr.allocr ?_ _ | refine Fr.setCellr ?_ _ _ (by first | exact Or.inl rfl | (right; simp; done) | (right; simp; omega))))⟩
      case measure => rw [← HC.out, strLen_string, strLen_string, HZ.out, cut_size s i k hk1 hk2]; omega
    · have hst := dend_stop s k (by simpa using hd)
      have HD2 : Hid (dend s i = k) := HD.out.trans hst
      have d1 : ¬ ((48 : Int) ≤ (byte s k).toNat ∧ ((byte s k).toNat : Int) ≤ 57) := fun h => hd ((isD_iff _).2 h)
      clear hst HD hd
      by_cases d2 : (48 : Int) ≤ (byte s k).toNat
      · have d3 : ¬ ((byte s k).toNat : Int) ≤ 57 := fun h => d1 ⟨d2, h⟩
        clear d1
        go_wp2_with fail
        go_ret
        exact ⟨ret_str (by rw [HD2.out]), by rw [HD2.out]; exact hpk, hfr⟩
      · clear d1
        go_wp2_with fail
        go_ret
        exact ⟨ret_str (by rw [HD2.out]), by rw [HD2.out]; exact hpk, hfr⟩

set_option maxRecDepth 100000 in
set_option maxHeartbeats 400000 in
theorem digits_bad (w : World) (b : Nat) (s : ByteArray) (i : Nat) (bad : Int) (v3 v4 v5 v6 : Value) (hp : PenB w b s i bad v3 v4 v5 v6) (hb : ¬ bad < 0) :
    Calls Try.prog 67 #[.pointer (some ⟨b, 0, none⟩)] w fun e w' => e = .returned (.string ByteArray.empty) ∧ ∃ n, w' = w.drewN n := by
  have Ha : Hid (ahd s i bad = 0) := by show _ = _; rw [ahd, if_neg hb]
  go_enter Try.func67, Try.ntmps67
  go_wp2_with fail
  refine (ahead_any _ b s i bad v3 v4 v5 v6 hp).mono ?_
  rintro e w1 ⟨rfl, n, rfl⟩
  rw [Ha.out]
  go_wp2_with fail
  go_loop [3, 4] (fun vs vc => vs = .string ⟨#[]⟩ ∧ vc = .int .u8 0) (fun _ _ => 0)
  case atStart => exact ⟨rfl, rfl⟩
  case round =>
    obtain ⟨rfl, rfl⟩ := hrel
    go_wp2_with fail
    go_ret
    exact ⟨rfl, n, rfl⟩

/-- What digits reads, in whatever state. -/
def dgI (s : ByteArray) (i : Nat) (bad : Int) : Nat := if bad < 0 then dend s i else i
def dgS (s : ByteArray) (i : Nat) (bad : Int) : ByteArray := cut s i (dgI s i bad)

theorem digits_any (w : World) (b : Nat) (s : ByteArray) (i : Nat) (bad : Int) (v3 v4 v5 v6 : Value) (hp : PenB w b s i bad v3 v4 v5 v6) (hs : s.size ≤ 1000000) (hn : i ≤ s.size) :
    Calls Try.prog 67 #[.pointer (some ⟨b, 0, none⟩)] w fun e w' => e = .returned (.string (dgS s i bad)) ∧
      PenB w' b s (dgI s i bad) bad v3 v4 v5 v6 ∧ Fr (· = b) w w' := by
  unfold dgS dgI
  by_cases hb : bad < 0
  · rw [if_pos hb]; exact digits_good w b s i bad v3 v4 v5 v6 hp hs hn hb
  · rw [if_neg hb, cut_self]
    refine (digits_bad w b s i bad v3 v4 v5 v6 hp hb).mono ?_
    rintro e w' ⟨rfl, n, rfl⟩
    exact ⟨rfl, hp, by (repeat (first | exact Fr.refl _ _ | assumption | refine Fr.drewNr ?_ _ | refine Fr.drewr ?_ | refine Fr.allocr ?_ _ | refine Fr.setCellr ?_ _ _ (by first | exact Or.inl rfl | (right; simp; done) | (right; simp; omega))))⟩

theorem dgI_bd (s : ByteArray) (i : Nat) (bad : Int) (h : i ≤ s.size) : i ≤ dgI s i bad ∧ dgI s i bad ≤ s.size := by
  unfold dgI; split
  · exact ⟨dend_ge s i, dend_le s i h⟩
  · exact ⟨Nat.le_refl _, h⟩

theorem tkI_bd (s : ByteArray) (lo hi : UInt8) (i : Nat) (bad : Int) (h : i ≤ s.size) : i ≤ tkI s lo hi i bad ∧ tkI s lo hi i bad ≤ s.size := by
  unfold tkI; split
  · exact ⟨Nat.le_refl _, h⟩
  · split
    · rename_i h2; simp [tkOk] at h2; omega
    · omega

theorem take_at (w : World) (b : Nat) (s : ByteArray) (lo hi : UInt8) (l h : Int) (hl : l = lo.toNat) (hh : h = hi.toNat) (i : Nat) (bad : Int) (v3 v4 v5 v6 : Value) (hp : PenB w b s i bad v3 v4 v5 v6) (hn : i ≤ 1000000) :
    Calls Try.prog 57 #[.pointer (some ⟨b, 0, none⟩), .int .u8 l, .int .u8 h] w fun e w' => e = .returned (.int .u8 (tkC s lo hi i bad).toNat) ∧
      PenB w' b s (tkI s lo hi i bad) (tkB s lo hi i bad) v3 v4 v5 v6 ∧ Fr (· = b) w w' := by
  subst hl; subst hh; exact take_any w b s lo hi i bad v3 v4 v5 v6 hp hn

/-- acts: the sign, and one or more digits. -/
def acGo (s : ByteArray) (sign : UInt8) (i : Nat) (bad : Int) : Bool := ahd s i bad == sign
def acI (s : ByteArray) (sign : UInt8) (i : Nat) (bad : Int) : Nat := if acGo s sign i bad then dgI s (tkI s 48 57 (i + 1) bad) (tkB s 48 57 (i + 1) bad) else i
def acB (s : ByteArray) (sign : UInt8) (i : Nat) (bad : Int) : Int := if acGo s sign i bad then tkB s 48 57 (i + 1) bad else bad
def acS (s : ByteArray) (sign : UInt8) (i : Nat) (bad : Int) : ByteArray := if acGo s sign i bad then ⟨#[tkC s 48 57 (i + 1) bad]⟩ ++ dgS s (tkI s 48 57 (i + 1) bad) (tkB s 48 57 (i + 1) bad) else ⟨#[]⟩

theorem acGo_in (s : ByteArray) (sign : UInt8) (i : Nat) (bad : Int) (h0 : sign ≠ 0) (h : acGo s sign i bad = true) : bad < 0 ∧ i < s.size := by
  simp only [acGo, beq_iff_eq, ahd] at h
  split at h
  · refine ⟨‹_›, ?_⟩
    by_cases e : i < s.size
    · exact e
    · rw [byte_out s i e] at h; exact absurd h.symm h0
  · exact absurd h.symm h0

theorem acI_bd (s : ByteArray) (sign : UInt8) (i : Nat) (bad : Int) (h0 : sign ≠ 0) (h : i ≤ s.size) : i ≤ acI s sign i bad ∧ acI s sign i bad ≤ s.size := by
  unfold acI; split
  · have hi := (acGo_in s sign i bad h0 ‹_›).2
    have h1 := tkI_bd s 48 57 (i + 1) bad (by omega)
    have h2 := dgI_bd s (tkI s 48 57 (i + 1) bad) (tkB s 48 57 (i + 1) bad) h1.2
    omega
  · omega

set_option maxRecDepth 100000 in
set_option maxHeartbeats 400000 in
theorem acts_any (w : World) (b : Nat) (s : ByteArray) (sign : UInt8) (i : Nat) (bad : Int) (v3 v4 v5 v6 : Value) (hp : PenB w b s i bad v3 v4 v5 v6) (hs : s.size ≤ 1000000) (hn : i ≤ s.size) (h0 : sign ≠ 0) :
    Calls Try.prog 58 #[.pointer (some ⟨b, 0, none⟩), .int .u8 sign.toNat] w fun e w' => e = .returned (.string (acS s sign i bad)) ∧
      PenB w' b s (acI s sign i bad) (acB s sign i bad) v3 v4 v5 v6 ∧ Fr (· = b) w w' := by
  by_cases hg : acGo s sign i bad = true
  · obtain ⟨hb, hi⟩ := acGo_in s sign i bad h0 hg
    have HE : Hid (acS s sign i bad = ⟨#[tkC s 48 57 (i + 1) bad]⟩ ++ dgS s (tkI s 48 57 (i + 1) bad) (tkB s 48 57 (i + 1) bad) ∧ acI s sign i bad = dgI s (tkI s 48 57 (i + 1) bad) (tkB s 48 57 (i + 1) bad) ∧ acB s sign i bad = tkB s 48 57 (i + 1) bad) := by
      exact ⟨by rw [acS, if_pos hg], by rw [acI, if_pos hg], by rw [acB, if_pos hg]⟩
    have Ha : Hid (ahd s i bad = sign) := by show _ = _; simpa [acGo] using hg
    obtain ⟨c0, c1, c2, -, -, -, -, hfz⟩ := hp.cells
    have hf1 := hfz 1
    clear hfz
    go_enter Try.func58, Try.ntmps58
    go_wp2_with fail
    refine (ahead_any _ b s i bad v3 v4 v5 v6 hp).mono ?_
    rintro e w1 ⟨rfl, n, rfl⟩
    rw [Ha.out]
    go_wp2_with fail
    refine (take_at _ b s 48 57 48 57 rfl rfl (i + 1) bad v3 v4 v5 v6 (by exact Blk.set hp 1 _) (by omega)).mono ?_
    rintro e w2 ⟨rfl, hp2, hf2⟩
    have hb1 := tkI_bd s 48 57 (i + 1) bad (by omega)
    go_wp2_with fail
    refine (digits_any _ b s _ _ v3 v4 v5 v6 hp2 hs hb1.2).mono ?_
    rintro e w3 ⟨rfl, hp3, hf3⟩
    have hb2 := dgI_bd s (tkI s 48 57 (i + 1) bad) (tkB s 48 57 (i + 1) bad) hb1.2
    have hsz : (dgS s (tkI s 48 57 (i + 1) bad) (tkB s 48 57 (i + 1) bad)).size ≤ 1000000 := by rw [dgS, cut_size s _ _ hb2.1 hb2.2]; omega
    go_wp2_with fail
    go_ret
    obtain ⟨e1, e2, e3⟩ := HE.out
    refine ⟨ret_str e1.symm, by rw [e2, e3]; exact Blk.alloc hp3 _, ?_⟩
    exact Fr.allocr (Fr.thenr (Fr.thenr (S := (· = b)) (by (repeat (first | exact Fr.refl _ _ | assumption | refine Fr.drewNr ?_ _ | refine Fr.drewr ?_ | refine Fr.allocr ?_ _ | refine Fr.setCellr ?_ _ _ (by first | exact Or.inl rfl | (right; simp; done) | (right; simp; omega))))) hf2 (fun _ _ h => h)) hf3 (fun _ _ h => h)) _
  · have hg' : acGo s sign i bad = false := by simpa using hg
    have HE : Hid (acS s sign i bad = ⟨#[]⟩ ∧ acI s sign i bad = i ∧ acB s sign i bad = bad) := by
      exact ⟨by rw [acS, if_neg hg], by rw [acI, if_neg hg], by rw [acB, if_neg hg]⟩
    have Ha : (((ahd s i bad).toNat : Int) == sign.toNat) = false := by
      simp only [acGo, beq_eq_false_iff_ne] at hg' ⊢
      intro h
      exact hg' (UInt8.toNat_inj.1 (by omega))
    clear hg hg'
    go_enter Try.func58, Try.ntmps58
    go_wp2_with fail
    refine (ahead_any _ b s i bad v3 v4 v5 v6 hp).mono ?_
    rintro e w1 ⟨rfl, n, rfl⟩
    go_wp2_with fail
    go_ret
    obtain ⟨e1, e2, e3⟩ := HE.out
    exact ⟨ret_str e1.symm, by rw [e2, e3]; exact hp, by (repeat (first | exact Fr.refl _ _ | assumption | refine Fr.drewNr ?_ _ | refine Fr.drewr ?_ | refine Fr.allocr ?_ _ | refine Fr.setCellr ?_ _ _ (by first | exact Or.inl rfl | (right; simp; done) | (right; simp; omega))))⟩
end Go.Proofs.Ytmolmbeeoecnfaa
