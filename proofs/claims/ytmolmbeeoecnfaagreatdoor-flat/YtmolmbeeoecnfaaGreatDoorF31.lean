/- Own work: TD3. -/
import Derived.Test.YtmolmbeeoecnfaaGreatDoorF30
/- Own work: walks of the document's table reader: row. -/
namespace Go.Proofs.YtmolmbeeoecnfaaGreatDoor
open Go.RowKit Go.BigFrame
set_option linter.unusedVariables false
set_option linter.unusedSimpArgs false

set_option maxRecDepth 100000 in
set_option maxHeartbeats 1000000 in
theorem row_any (w : World) (b : Nat) (s : ByteArray) (i wd : Nat) (v3 v4 v5 v6 : Value) (hp : PenB w b s i (-1) v3 v4 v5 v6) (hs : s.size ≤ 1000000) (hn : i ≤ s.size) (hw : wd ≤ s.size) :
    Calls Tryz.prog 60 #[.pointer (some ⟨b, 0, none⟩), .int .i64 wd] w (DrPost s b i wd v3 v4 v5 v6 w) := by
  obtain ⟨c0, c1, c2, -, -, -, -, hfz⟩ := hp.cells
  have hbl := Blk.lt hp
  have hQ := Blk.alloc (Blk.new w #[.int .i64 0, .int .i64 0, .slice none 0 0, .string ⟨#[]⟩] 108) (.cells #[.int .i64 i, .int .i64 (-1), .slice none 0 0, .string ⟨#[]⟩] 108)
  have hR := Blk.new' (w.alloc (.cells #[.int .i64 0, .int .i64 0, .slice none 0 0, .string ⟨#[]⟩] 108)) #[.int .i64 i, .int .i64 (-1), .slice none 0 0, .string ⟨#[]⟩] 108 (w.heap.size + 1) (by simp)
  have hpa : PenB ((w.alloc (.cells #[.int .i64 0, .int .i64 0, .slice none 0 0, .string ⟨#[]⟩] 108)).alloc (.cells #[.int .i64 i, .int .i64 (-1), .slice none 0 0, .string ⟨#[]⟩] 108)) b s i (-1) v3 v4 v5 v6 := Blk.alloc (Blk.alloc hp _) _
  have hfa : Fr (· = b) w ((w.alloc (.cells #[.int .i64 0, .int .i64 0, .slice none 0 0, .string ⟨#[]⟩] 108)).alloc (.cells #[.int .i64 i, .int .i64 (-1), .slice none 0 0, .string ⟨#[]⟩] 108)) := ((Fr.refl _ _).allocr _).allocr _
  go_enter Tryz.func60, Tryz.ntmps60
  go_wp2_with fail
  generalize ((w.alloc (.cells #[.int .i64 0, .int .i64 0, .slice none 0 0, .string ⟨#[]⟩] 108)).alloc (.cells #[.int .i64 i, .int .i64 (-1), .slice none 0 0, .string ⟨#[]⟩] 108)) = W at hQ hR hpa hfa ⊢
  clear hp c0 c1 c2 hfz
  refine (ahead_any _ b s i (-1) v3 v4 v5 v6 hpa).mono ?_
  rintro e w1 ⟨rfl, n1, rfl⟩
  rw [show ahd s i (-1) = byte s i by simp [ahd]]
  have hQ1 := Blk.drewN hQ n1
  have hR1 := Blk.drewN hR n1
  have hp1 : PenB (W.drewN n1) b s i (-1) v3 v4 v5 v6 := Blk.drewN hpa n1
  have hfr1 := hfa.drewNr n1
  generalize W.drewN n1 = W1 at hQ1 hR1 hp1 hfr1 ⊢
  clear hQ hR hpa hfa
  have hsz1 := Blk.lt hR1
  obtain ⟨c0, c1, c2, -, -, -, -, hfz⟩ := hp1.cells
  have z1 := hfz 1
  clear hfz
  by_cases h61 : byte s i = 61
  · have H61 : Hid (byte s i = 61) := h61
    have hin := sg_in s 61 i (by decide) h61
    rw [h61]
    clear h61
    go_wp2_with fail
    have hp2 : PenB (W1.setCell ⟨b, 1, none⟩ (.int .i64 ((i : Int) + 1))) b s (i + 1) (-1) v3 v4 v5 v6 := Blk.set hp1 1 _
    have hQ2 := Blk.other hQ1 ⟨b, 1, none⟩ (.int .i64 ((i : Int) + 1)) (by show w.heap.size ≠ b; omega)
    have hR2 := Blk.other hR1 ⟨b, 1, none⟩ (.int .i64 ((i : Int) + 1)) (by show w.heap.size + 1 ≠ b; omega)
    have hfr2 := hfr1.setCellr ⟨b, 1, none⟩ (.int .i64 ((i : Int) + 1)) (Or.inl rfl)
    generalize W1.setCell ⟨b, 1, none⟩ (.int .i64 ((i : Int) + 1)) = W2 at hp2 hQ2 hR2 hfr2 ⊢
    clear hp1 hQ1 hR1 hfr1 c0 c1 c2 z1
    refine (num_good _ b s (i + 1) v3 v4 v5 v6 hp2 hs hin).mono ?_
    rintro e w3 ⟨hyes, hno, hf3⟩
    have hQ3 := Blk.fr hQ2 hf3 (by omega)
    have hR3 := Blk.fr hR2 hf3 (by omega)
    have hfr3 := hfr2.thenr hf3 (fun _ _ h => h)
    have z1 := Blk.frozen hR3 1
    have x1 : w3.cell? ⟨w.heap.size + 1, 1, none⟩ = some (.int .i64 (-1)) := by rw [Blk.cell hR3]; rfl
    clear hp2 hQ2 hR2 hfr2 hf3
    have hlo : ∀ k, (Value.slice none 0 0).ownBlock = some k → w.heap.size + 2 ≤ k := fun k hk => by simp [Value.ownBlock] at hk
    by_cases hd : isD (byte s (i + 1)) = true
    · obtain ⟨rfl, hp3⟩ := hyes hd
      have hbd := nend_bd s (i + 1) hd
      have hnd : ¬ isD (byte s (i + 1)) = false := by rw [hd]; simp
      have HOK : Hid (byte s (nend s (i + 1)) = 59 → rowP s wd i = (true, nend s (i + 1) + 1, ⟨i, nval s (i + 1), [], cut s i (nend s (i + 1))⟩)) := by
        show _ → _; intro h; unfold rowP; simp only; rw [if_pos H61.out, if_neg hnd, if_neg (fun h' => h' h)]
      have HNO : Hid (byte s (nend s (i + 1)) ≠ 59 → rowP s wd i = (false, nend s (i + 1), ⟨0, 0, [], ⟨#[]⟩⟩)) := by
        show _ → _; intro h; unfold rowP; simp only; rw [if_pos H61.out, if_neg hnd, if_pos h]
      clear hyes hno hd hnd
      have hvl := nval_le s (i + 1)
      generalize nval s (i + 1) = m at *
      generalize nend s (i + 1) = j at *
      go_wp2_with fail
      have hp5 : PenB (w3.setCell ⟨w.heap.size + 1, 1, none⟩ (.int .i64 m)) b s j (-1) v3 v4 v5 v6 := Blk.other hp3 _ _ (by show b ≠ w.heap.size + 1; omega)
      have hQ5 := Blk.other hQ3 ⟨w.heap.size + 1, 1, none⟩ (.int .i64 m) (by show w.heap.size ≠ w.heap.size + 1; omega)
      have hR5 : Blk (w3.setCell ⟨w.heap.size + 1, 1, none⟩ (.int .i64 m)) (w.heap.size + 1) #[.int .i64 i, .int .i64 m, .slice none 0 0, .string ⟨#[]⟩] 108 := Blk.set hR3 1 _
      have hfr5 := hfr3.setCellr ⟨w.heap.size + 1, 1, none⟩ (.int .i64 m) (Or.inr (by show w.heap.size ≤ w.heap.size + 1; omega))
      generalize w3.setCell ⟨w.heap.size + 1, 1, none⟩ (.int .i64 m) = W5 at hp5 hQ5 hR5 hfr5 ⊢
      have hrow5 : W5.ownsRow 0 71 2 (.slice none 0 0) 0 [] := World.ownsRow_nil _ _ _ _
      clear hp3 hQ3 hR3 hfr3 x1 z1
      refine (take_at _ b s 59 59 59 59 rfl rfl (j) (-1) v3 v4 v5 v6 hp5 (by omega)).mono ?_
      rintro e w6 ⟨rfl, hp6, hf6⟩
      have hQ6 := Blk.fr hQ5 hf6 (by omega)
      have hR6 := Blk.fr hR5 hf6 (by omega)
      have hfr6 := hfr5.thenr hf6 (fun _ _ h => h)
      have hrow6 := row_fr hrow5 hf6 (fun k hk e => by have := hlo k hk; omega)
      by_cases h59 : byte s (j) = 59
      · have HE : Hid _ := HOK.out h59
        have hk : tkOk s 59 59 (j) = true := by rw [tkOk_1 s 59 _ (by decide)]; simp [h59]
        rw [show tkI s 59 59 (j) (-1) = j + 1 by simp [tkI, hk], show tkB s 59 59 (j) (-1) = -1 by simp [tkB, hk]] at hp6
        clear h59 hk HOK HNO
        have q0 : w6.cell? ⟨w.heap.size, 0, none⟩ = some (.int .i64 0) := by rw [Blk.cell hQ6]; rfl
        have q1 : w6.cell? ⟨w.heap.size, 1, none⟩ = some (.int .i64 0) := by rw [Blk.cell hQ6]; rfl
        have q2 : w6.cell? ⟨w.heap.size, 2, none⟩ = some (.slice none 0 0) := by rw [Blk.cell hQ6]; rfl
        have q3 : w6.cell? ⟨w.heap.size, 3, none⟩ = some (.string ⟨#[]⟩) := by rw [Blk.cell hQ6]; rfl
        have y0 := Blk.frozen hQ6 0
        have y1 := Blk.frozen hQ6 1
        have y2 := Blk.frozen hQ6 2
        have y3 := Blk.frozen hQ6 3
        have r0 : w6.cell? ⟨w.heap.size + 1, 0, none⟩ = some (.int .i64 i) := by rw [Blk.cell hR6]; rfl
        have r1 : w6.cell? ⟨w.heap.size + 1, 1, none⟩ = some (.int .i64 m) := by rw [Blk.cell hR6]; rfl
        have r2 : w6.cell? ⟨w.heap.size + 1, 2, none⟩ = some (.slice none 0 0) := by rw [Blk.cell hR6]; rfl
        have r3 : w6.cell? ⟨w.heap.size + 1, 3, none⟩ = some (.string ⟨#[]⟩) := by rw [Blk.cell hR6]; rfl
        go_wp2_with fail
        refine bodyPost_ret (v := .agg #[.int .i64 i, .int .i64 m, .slice none 0 0, .string ⟨#[]⟩]) (by simp [results, Tryz.results60, go_sem, q0, q1, q2, q3]) rfl ⟨fun _ => ⟨.slice none 0 0, ?_, ?_, ?_, ?_⟩, fun h => ?_, ?_⟩
        · rw [HE.out]; simp [RwH.dcells, dText, show ¬ ((m : Int) < 0) by omega]
        · rw [HE.out]; exact blk4 hp6 _ (by omega) _ _ _ _
        · rw [HE.out]; exact row_fr hrow6 (fr4 (S := fun k => k = w.heap.size) (Fr.refl _ _) w.heap.size (Or.inl rfl) _ _ _ _) (fun k hk e => by have := hlo k hk; omega)
        · intro k hk; have := hlo k hk; omega
        · rw [HE.out] at h; cases h
        · exact fr4 hfr6 _ (Or.inr (Nat.le_refl _)) _ _ _ _
      · have HE : Hid _ := HNO.out h59
        have hk : tkOk s 59 59 (j) = false := by rw [tkOk_1 s 59 _ (by decide)]; simp [h59]
        rw [show tkB s 59 59 (j) (-1) = ((j : Nat) : Int) by simp [tkB, hk]] at hp6
        clear h59 hk HOK HNO
        have q0 : w6.cell? ⟨w.heap.size, 0, none⟩ = some (.int .i64 0) := by rw [Blk.cell hQ6]; rfl
        have q1 : w6.cell? ⟨w.heap.size, 1, none⟩ = some (.int .i64 0) := by rw [Blk.cell hQ6]; rfl
        have q2 : w6.cell? ⟨w.heap.size, 2, none⟩ = some (.slice none 0 0) := by rw [Blk.cell hQ6]; rfl
        have q3 : w6.cell? ⟨w.heap.size, 3, none⟩ = some (.string ⟨#[]⟩) := by rw [Blk.cell hQ6]; rfl
        have y0 := Blk.frozen hQ6 0
        have y1 := Blk.frozen hQ6 1
        have y2 := Blk.frozen hQ6 2
        have y3 := Blk.frozen hQ6 3
        have r0 : w6.cell? ⟨w.heap.size + 1, 0, none⟩ = some (.int .i64 i) := by rw [Blk.cell hR6]; rfl
        have r1 : w6.cell? ⟨w.heap.size + 1, 1, none⟩ = some (.int .i64 m) := by rw [Blk.cell hR6]; rfl
        have r2 : w6.cell? ⟨w.heap.size + 1, 2, none⟩ = some (.slice none 0 0) := by rw [Blk.cell hR6]; rfl
        have r3 : w6.cell? ⟨w.heap.size + 1, 3, none⟩ = some (.string ⟨#[]⟩) := by rw [Blk.cell hR6]; rfl
        go_wp2_with fail
        refine bodyPost_ret (v := .agg #[.int .i64 i, .int .i64 m, .slice none 0 0, .string ⟨#[]⟩]) (by simp [results, Tryz.results60, go_sem, q0, q1, q2, q3]) rfl ⟨fun h => ?_, fun _ => ⟨_, _, _, _, _, _, rfl, ?_⟩, ?_⟩
        · rw [HE.out] at h; cases h
        · rw [HE.out]; exact ⟨_, blk4 hp6 _ (by omega) _ _ _ _⟩
        · exact fr4 hfr6 _ (Or.inr (Nat.le_refl _)) _ _ _ _
    · have hd' : isD (byte s (i + 1)) = false := by simpa using hd
      obtain ⟨rfl, hp3⟩ := hno hd'
      have HE : Hid (rowP s wd i = (false, i + 1, ⟨0, 0, [], ⟨#[]⟩⟩)) := by show _ = _; unfold rowP; simp only; rw [if_pos H61.out, if_pos hd']
      clear hyes hno hd hd'
      go_wp2_with fail
      have hp5 : PenB (w3.setCell ⟨w.heap.size + 1, 1, none⟩ (.int .i64 0)) b s (i + 1) ((i + 1 : Nat) : Int) v3 v4 v5 v6 := Blk.other hp3 _ _ (by show b ≠ w.heap.size + 1; omega)
      have hQ5 := Blk.other hQ3 ⟨w.heap.size + 1, 1, none⟩ (.int .i64 0) (by show w.heap.size ≠ w.heap.size + 1; omega)
      have hR5 : Blk (w3.setCell ⟨w.heap.size + 1, 1, none⟩ (.int .i64 0)) (w.heap.size + 1) #[.int .i64 i, .int .i64 0, .slice none 0 0, .string ⟨#[]⟩] 108 := Blk.set hR3 1 _
      have hfr5 := hfr3.setCellr ⟨w.heap.size + 1, 1, none⟩ (.int .i64 0) (Or.inr (by show w.heap.size ≤ w.heap.size + 1; omega))
      generalize w3.setCell ⟨w.heap.size + 1, 1, none⟩ (.int .i64 0) = W5 at hp5 hQ5 hR5 hfr5 ⊢
      clear hp3 hQ3 hR3 hfr3 x1 z1
      refine (take_at _ b s 59 59 59 59 rfl rfl (i + 1) (((i + 1 : Nat) : Int)) v3 v4 v5 v6 hp5 (by omega)).mono ?_
      rintro e w6 ⟨rfl, hp6, hf6⟩
      have hQ6 := Blk.fr hQ5 hf6 (by omega)
      have hR6 := Blk.fr hR5 hf6 (by omega)
      have hfr6 := hfr5.thenr hf6 (fun _ _ h => h)
      rw [show tkB s 59 59 (i + 1) (((i + 1 : Nat) : Int)) = ((i + 1 : Nat) : Int) by (have : 0 ≤ (((i + 1 : Nat) : Int) : Int) := by omega); simp [tkB, this]] at hp6
      have q0 : w6.cell? ⟨w.heap.size, 0, none⟩ = some (.int .i64 0) := by rw [Blk.cell hQ6]; rfl
      have q1 : w6.cell? ⟨w.heap.size, 1, none⟩ = some (.int .i64 0) := by rw [Blk.cell hQ6]; rfl
      have q2 : w6.cell? ⟨w.heap.size, 2, none⟩ = some (.slice none 0 0) := by rw [Blk.cell hQ6]; rfl
      have q3 : w6.cell? ⟨w.heap.size, 3, none⟩ = some (.string ⟨#[]⟩) := by rw [Blk.cell hQ6]; rfl
      have y0 := Blk.frozen hQ6 0
      have y1 := Blk.frozen hQ6 1
      have y2 := Blk.frozen hQ6 2
      have y3 := Blk.frozen hQ6 3
      have r0 : w6.cell? ⟨w.heap.size + 1, 0, none⟩ = some (.int .i64 i) := by rw [Blk.cell hR6]; rfl
      have r1 : w6.cell? ⟨w.heap.size + 1, 1, none⟩ = some (.int .i64 0) := by rw [Blk.cell hR6]; rfl
      have r2 : w6.cell? ⟨w.heap.size + 1, 2, none⟩ = some (.slice none 0 0) := by rw [Blk.cell hR6]; rfl
      have r3 : w6.cell? ⟨w.heap.size + 1, 3, none⟩ = some (.string ⟨#[]⟩) := by rw [Blk.cell hR6]; rfl
      go_wp2_with fail
      refine bodyPost_ret (v := .agg #[.int .i64 i, .int .i64 0, .slice none 0 0, .string ⟨#[]⟩]) (by simp [results, Tryz.results60, go_sem, q0, q1, q2, q3]) rfl ⟨fun h => ?_, fun _ => ⟨_, _, _, _, _, _, rfl, ?_⟩, ?_⟩
      · rw [HE.out] at h; cases h
      · rw [HE.out]; exact ⟨_, blk4 hp6 _ (by omega) _ _ _ _⟩
      · exact fr4 hfr6 _ (Or.inr (Nat.le_refl _)) _ _ _ _
  · have H61 : Hid (byte s i ≠ 61) := h61
    have hne : (((byte s i).toNat : Int) == 61) = false := by
      rw [beq_eq_false_iff_ne]; intro h; exact h61 (UInt8.toNat_inj.1 (by show _ = 61; omega))
    clear h61
    go_wp2_with fail
    go_loopg [7] (wd + 1) (fun gk vk wr => ∃ (k j : Nat) (bad : Int) (a : List Cl) (cv : Value), vk = .int .i64 k ∧ PenB wr b s j bad v3 v4 v5 v6 ∧ k ≤ wd ∧ i ≤ j ∧ j ≤ s.size ∧ a.length = k ∧ (bad = -1 ∨ 0 ≤ bad) ∧ Blk wr (w.heap.size + 1) #[.int .i64 i, .int .i64 (-1), cv, .string ⟨#[]⟩] 108 ∧ Blk wr w.heap.size #[.int .i64 0, .int .i64 0, .slice none 0 0, .string ⟨#[]⟩] 108 ∧ wr.ownsRow 0 71 2 cv a.length (a.flatMap clD) ∧ (∀ q, cv.ownBlock = some q → w.heap.size + 2 ≤ q) ∧ Fr (· = b) w wr ∧ Hid (ClSt s wd i k j bad a) ∧ wd + 1 - k ≤ gk)
    case atStart => exact ⟨0, i, -1, [], .slice none 0 0, rfl, hp1, Nat.zero_le _, Nat.le_refl _, hn, rfl, Or.inl rfl, hR1, hQ1, World.ownsRow_nil _ _ _ _, (fun k hk => by simp [Value.ownBlock] at hk), hfr1, Or.inl ⟨rfl, rfl, rfl⟩, Nat.le_refl _⟩
    case round =>
      clear hp1 hQ1 hR1 hfr1 c0 c1 c2 z1 hsz1 hne
      obtain ⟨k, j, bad, a, cv, rfl, hpk, hkw, hij, hj, hak, hbad, hR, hQ, hrow, hlo, hfr, HC, hgk⟩ := hrel
      obtain ⟨ca, cc, hcv⟩ := row_len hrow
      subst hcv
      subst hak
      obtain ⟨c0, c1, c2, -⟩ := hpk.cells
      have hRl := Blk.lt hR
      by_cases hb0 : 0 ≤ bad
      · have HE : Hid (rowP s wd i = (false, bad.toNat, ⟨0, 0, [], ⟨#[]⟩⟩)) := by
          show _ = _
          rcases HC.out with ⟨h, -⟩ | ⟨-, h1, h2⟩
          · omega
          · unfold rowP; simp only; rw [if_neg H61.out, if_pos h1, show (clF s wd i []).2.1 = bad.toNat by omega]
        have hbd' : decide (bad < 0) = false := by simp; omega
        have HBD : Hid ((bad.toNat : Int) = bad) := by show _ = _; omega
        have hp5 := hpk
        have hQ5 := hQ
        have hR5 := hR
        have hfr5 := hfr
        clear hpk hQ hR hfr
        by_cases hkk : (a.length : Int) < wd
        · go_wp2_with fail
          refine (take_at _ b s 59 59 59 59 rfl rfl (j) (bad) v3 v4 v5 v6 hp5 (by omega)).mono ?_
          rintro e w6 ⟨rfl, hp6, hf6⟩
          have hQ6 := Blk.fr hQ5 hf6 (by omega)
          have hR6 := Blk.fr hR5 hf6 (by omega)
          have hfr6 := hfr5.thenr hf6 (fun _ _ h => h)
          rw [show tkB s 59 59 (j) (bad) = bad by (have : 0 ≤ (bad : Int) := by omega); simp [tkB, this]] at hp6
          have q0 : w6.cell? ⟨w.heap.size, 0, none⟩ = some (.int .i64 0) := by rw [Blk.cell hQ6]; rfl
          have q1 : w6.cell? ⟨w.heap.size, 1, none⟩ = some (.int .i64 0) := by rw [Blk.cell hQ6]; rfl
          have q2 : w6.cell? ⟨w.heap.size, 2, none⟩ = some (.slice none 0 0) := by rw [Blk.cell hQ6]; rfl
          have q3 : w6.cell? ⟨w.heap.size, 3, none⟩ = some (.string ⟨#[]⟩) := by rw [Blk.cell hQ6]; rfl
          have y0 := Blk.frozen hQ6 0
          have y1 := Blk.frozen hQ6 1
          have y2 := Blk.frozen hQ6 2
          have y3 := Blk.frozen hQ6 3
          have r0 : w6.cell? ⟨w.heap.size + 1, 0, none⟩ = some (.int .i64 i) := by rw [Blk.cell hR6]; rfl
          have r1 : w6.cell? ⟨w.heap.size + 1, 1, none⟩ = some (.int .i64 (-1)) := by rw [Blk.cell hR6]; rfl
          have r2 : w6.cell? ⟨w.heap.size + 1, 2, none⟩ = some (.slice ca a.length cc) := by rw [Blk.cell hR6]; rfl
          have r3 : w6.cell? ⟨w.heap.size + 1, 3, none⟩ = some (.string ⟨#[]⟩) := by rw [Blk.cell hR6]; rfl
          rw [← HBD.out] at hp6
          go_wp2_with fail
          refine bodyPost_ret (v := .agg #[.int .i64 i, .int .i64 (-1), .slice ca a.length cc, .string ⟨#[]⟩]) (by simp [results, Tryz.results60, go_sem, q0, q1, q2, q3]) rfl ⟨fun h => ?_, fun _ => ⟨_, _, _, _, _, _, rfl, ?_⟩, ?_⟩
          · rw [HE.out] at h; cases h
          · rw [HE.out]; exact ⟨_, blk4 hp6 _ (by omega) _ _ _ _⟩
          · exact fr4 hfr6 _ (Or.inr (Nat.le_refl _)) _ _ _ _
        · have hkk' : decide (a.length < wd) = false := by simp; omega
          go_wp2_with fail
          refine (take_at _ b s 59 59 59 59 rfl rfl (j) (bad) v3 v4 v5 v6 hp5 (by omega)).mono ?_
          rintro e w6 ⟨rfl, hp6, hf6⟩
          have hQ6 := Blk.fr hQ5 hf6 (by omega)
          have hR6 := Blk.fr hR5 hf6 (by omega)
          have hfr6 := hfr5.thenr hf6 (fun _ _ h => h)
          rw [show tkB s 59 59 (j) (bad) = bad by (have : 0 ≤ (bad : Int) := by omega); simp [tkB, this]] at hp6
          have q0 : w6.cell? ⟨w.heap.size, 0, none⟩ = some (.int .i64 0) := by rw [Blk.cell hQ6]; rfl
          have q1 : w6.cell? ⟨w.heap.size, 1, none⟩ = some (.int .i64 0) := by rw [Blk.cell hQ6]; rfl
          have q2 : w6.cell? ⟨w.heap.size, 2, none⟩ = some (.slice none 0 0) := by rw [Blk.cell hQ6]; rfl
          have q3 : w6.cell? ⟨w.heap.size, 3, none⟩ = some (.string ⟨#[]⟩) := by rw [Blk.cell hQ6]; rfl
          have y0 := Blk.frozen hQ6 0
          have y1 := Blk.frozen hQ6 1
          have y2 := Blk.frozen hQ6 2
          have y3 := Blk.frozen hQ6 3
          have r0 : w6.cell? ⟨w.heap.size + 1, 0, none⟩ = some (.int .i64 i) := by rw [Blk.cell hR6]; rfl
          have r1 : w6.cell? ⟨w.heap.size + 1, 1, none⟩ = some (.int .i64 (-1)) := by rw [Blk.cell hR6]; rfl
          have r2 : w6.cell? ⟨w.heap.size + 1, 2, none⟩ = some (.slice ca a.length cc) := by rw [Blk.cell hR6]; rfl
          have r3 : w6.cell? ⟨w.heap.size + 1, 3, none⟩ = some (.string ⟨#[]⟩) := by rw [Blk.cell hR6]; rfl
          rw [← HBD.out] at hp6
          go_wp2_with fail
          refine bodyPost_ret (v := .agg #[.int .i64 i, .int .i64 (-1), .slice ca a.length cc, .string ⟨#[]⟩]) (by simp [results, Tryz.results60, go_sem, q0, q1, q2, q3]) rfl ⟨fun h => ?_, fun _ => ⟨_, _, _, _, _, _, rfl, ?_⟩, ?_⟩
          · rw [HE.out] at h; cases h
          · rw [HE.out]; exact ⟨_, blk4 hp6 _ (by omega) _ _ _ _⟩
          · exact fr4 hfr6 _ (Or.inr (Nat.le_refl _)) _ _ _ _
      · have hb1 : bad = -1 := by omega
        subst hb1
        by_cases hkk : (a.length : Int) < wd
        · have HC2 : Hid _ := clSt_step s wd i a.length j a hj (by omega) HC.out
          clear HC hbad hb0
          by_cases hk0 : a.length = 0
          · have hI : cmI s a.length j = j := by rw [cmI, if_pos hk0]
            have hB : cmB s a.length j = -1 := by rw [cmB, if_pos hk0]
            have hp3 := hpk
            rw [← hI, ← hB] at hp3
            have hcj : i ≤ cmI s a.length j ∧ cmI s a.length j ≤ s.size := by rw [hI]; exact ⟨hij, hj⟩
            have hcb : cmB s a.length j = -1 ∨ 0 ≤ cmB s a.length j := Or.inl hB
            have hk0' : decide (0 < a.length) = false := decide_eq_false (by omega)
            have hQ3 := hQ
            have hR3 := hR
            have hfr3 := hfr
            have hrow3 := hrow
            clear hk0 hI hB
            go_wp2_with fail
            clear hpk hQ hR hfr hrow c0 c1 c2
            refine (num_any _ b s _ _ v3 v4 v5 v6 hp3 hs hcj.2 hcb).mono ?_
            rintro e w4 ⟨rfl, hp4, hf4⟩
            have hQ4 := Blk.fr hQ3 hf4 (by omega)
            have hR4 := Blk.fr hR3 hf4 (by omega)
            have hfr4 := hfr3.thenr hf4 (fun _ _ h => h)
            have hrow4 := row_fr hrow3 hf4 (fun k hk e => by have := hlo k hk; omega)
            have hnb := nuI_bd s (cmI s a.length j) (cmB s a.length j) hcj.2
            clear hp3 hQ3 hR3 hfr3 hrow3 hf4
            go_wp2_with fail
            refine (take_at _ b s 58 58 58 58 rfl rfl _ _ v3 v4 v5 v6 hp4 (by omega)).mono ?_
            rintro e w5 ⟨rfl, hp5, hf5⟩
            have hQ5 := Blk.fr hQ4 hf5 (by omega)
            have hR5 := Blk.fr hR4 hf5 (by omega)
            have hfr5 := hfr4.thenr hf5 (fun _ _ h => h)
            have hrow5 := row_fr hrow4 hf5 (fun k hk e => by have := hlo k hk; omega)
            have htb := tkI_bd s 58 58 (nuI s (cmI s a.length j) (cmB s a.length j)) (nuB s (cmI s a.length j) (cmB s a.length j)) hnb.2
            clear hp4 hQ4 hR4 hfr4 hrow4 hf5
            go_wp2_with fail
            refine (digits_any _ b s _ _ v3 v4 v5 v6 hp5 hs htb.2).mono ?_
            rintro e w6 ⟨rfl, hp6, hf6⟩
            change PenB w6 b s (dcI s (cmI s a.length j) (cmB s a.length j)) (dcB s (cmI s a.length j) (cmB s a.length j)) v3 v4 v5 v6 at hp6
            have hQ6 := Blk.fr hQ5 hf6 (by omega)
            have hR6 := Blk.fr hR5 hf6 (by omega)
            have hfr6 := hfr5.thenr hf6 (fun _ _ h => h)
            have hrow6 := row_fr hrow5 hf6 (fun k hk e => by have := hlo k hk; omega)
            have hdb := dcI_bd s (cmI s a.length j) (cmB s a.length j) hcj.2
            have HBB : Hid (dcB s (cmI s a.length j) (cmB s a.length j) = -1 ∨ 0 ≤ dcB s (cmI s a.length j) (cmB s a.length j)) := by
              rcases HC2.out with ⟨h, -⟩ | ⟨h, -⟩
              · exact Or.inl h
              · exact Or.inr h
            clear hp5 hQ5 hR5 hfr5 hrow5 hf6
            rw [show nuV s (cmI s a.length j) (cmB s a.length j) = (dcC s (cmI s a.length j) (cmB s a.length j)).dst from rfl, show dgS s (tkI s 58 58 (nuI s (cmI s a.length j) (cmB s a.length j)) (nuB s (cmI s a.length j) (cmB s a.length j))) (tkB s 58 58 (nuI s (cmI s a.length j) (cmB s a.length j)) (nuB s (cmI s a.length j) (cmB s a.length j))) = (dcC s (cmI s a.length j) (cmB s a.length j)).acts from rfl]
            generalize dcC s (cmI s a.length j) (cmB s a.length j) = cx at *
            generalize dcI s (cmI s a.length j) (cmB s a.length j) = jx at *
            generalize dcB s (cmI s a.length j) (cmB s a.length j) = bx at *
            have x2 : w6.cell? ⟨w.heap.size + 1, 2, none⟩ = some (.slice ca a.length cc) := by rw [Blk.cell hR6]; rfl
            have hR6l := Blk.lt hR6
            have hbl6 := Blk.lt hp6
            go_wp2_with (at_builtin; go_must (refine wpList_append1 rfl _ _ _ rfl _ 2 24 elemDCell _ a.length (a.flatMap clD) rfl (by exact hrow6.alloc _) ⟨w6.heap.size, 0, none⟩ 1 (clD cx) rfl rfl (by exact cells_new (Blk.new' _ _ _ _ (by simp))) (by intro u hu; simp [clD] at hu; rcases hu with rfl | rfl <;> rfl) (by unfold maxLen; omega) (by omega) ?_); intro g cap w7 hrow7 hgrow hgo; have hG7 : Fr (fun j => (Value.slice ca a.length cc).ownBlock = some j) _ w7 := Fr.grown (fun j => (Value.slice ca a.length cc).ownBlock = some j) hgrow (fun _ e => e); have hp7 : PenB w7 b s jx bx v3 v4 v5 v6 := Blk.fr (Blk.alloc hp6 _) hG7 (fun e => by have := hlo b e; omega); have hR7 := Blk.fr (Blk.alloc hR6 _) hG7 (fun e => by have := hlo _ e; omega); have hQ7 := Blk.fr (Blk.alloc hQ6 _) hG7 (fun e => by have := hlo _ e; omega); have m2 : w7.cell? ⟨w.heap.size + 1, 2, none⟩ = some (.slice ca a.length cc) := by { rw [Blk.cell hR7]; rfl }; have mz := Blk.frozen hR7 2)
            have hlo7 : w.heap.size + 2 ≤ g := by
              rcases hgo with e | e
              · exact hlo g e
              · simp at e; omega
            have hfr7 : Fr (· = b) w w7 := (hfr6.allocr _).thenr hG7 (fun j hj e => by have := hlo j e; omega)
            go_roundg (wd + 1 - (a.length + 1))
            case measure => omega
            case rel =>
              refine ⟨a.length + 1, jx, bx, a ++ [cx], .slice (some ⟨g, 0, none⟩) (a.length + 1) cap, by go_num, Blk.other hp7 _ _ (by show b ≠ w.heap.size + 1; omega), by omega, by omega, by omega, by simp, HBB.out, Blk.set hR7 2 _, Blk.other hQ7 _ _ (by show w.heap.size ≠ w.heap.size + 1; omega), ?_, ?_, hfr7.setCellr _ _ (Or.inr (by show w.heap.size ≤ w.heap.size + 1; omega)), HC2, Nat.le_refl _⟩
              · have h8 := row_fr hrow7 (Fr.setCell (· = w.heap.size + 1) w7 ⟨w.heap.size + 1, 2, none⟩ (.slice (some ⟨g, 0, none⟩) (a.length + 1) cap) rfl) (fun k hk e => by simp only [Value.ownBlock, Option.some.injEq] at hk; omega)
                simpa using h8
              · intro k hk
                simp only [Value.ownBlock, Option.some.injEq] at hk
                omega
          · have hI : cmI s a.length j = tkI s 44 44 j (-1) := by rw [cmI, if_neg hk0]
            have hB : cmB s a.length j = tkB s 44 44 j (-1) := by rw [cmB, if_neg hk0]
            have hk0' : (0 : Int) < a.length := by omega
            have HIB : Hid _ := And.intro hI hB
            clear hk0 hI hB
            go_wp2_with fail
            refine (take_at _ b s 44 44 44 44 rfl rfl j (-1) v3 v4 v5 v6 hpk (by omega)).mono ?_
            rintro e w3 ⟨rfl, hp3, hf3⟩
            have hcj : i ≤ cmI s a.length j ∧ cmI s a.length j ≤ s.size := by have := tkI_bd s 44 44 j (-1) hj; rw [HIB.out.1]; omega
            have hcb : cmB s a.length j = -1 ∨ 0 ≤ cmB s a.length j := by
              rw [HIB.out.2]; unfold tkB; split
              · omega
              · split
                · exact Or.inl rfl
                · exact Or.inr (by omega)
            rw [← HIB.out.1, ← HIB.out.2] at hp3
            have hQ3 := Blk.fr hQ hf3 (by omega)
            have hR3 := Blk.fr hR hf3 (by omega)
            have hfr3 := hfr.thenr hf3 (fun _ _ h => h)
            have hrow3 := row_fr hrow hf3 (fun k hk e => by have := hlo k hk; omega)
            clear hpk hQ hR hfr hrow c0 c1 c2 hf3 HIB
            go_wp2_with fail
            refine (num_any _ b s _ _ v3 v4 v5 v6 hp3 hs hcj.2 hcb).mono ?_
            rintro e w4 ⟨rfl, hp4, hf4⟩
            have hQ4 := Blk.fr hQ3 hf4 (by omega)
            have hR4 := Blk.fr hR3 hf4 (by omega)
            have hfr4 := hfr3.thenr hf4 (fun _ _ h => h)
            have hrow4 := row_fr hrow3 hf4 (fun k hk e => by have := hlo k hk; omega)
            have hnb := nuI_bd s (cmI s a.length j) (cmB s a.length j) hcj.2
            clear hp3 hQ3 hR3 hfr3 hrow3 hf4
            go_wp2_with fail
            refine (take_at _ b s 58 58 58 58 rfl rfl _ _ v3 v4 v5 v6 hp4 (by omega)).mono ?_
            rintro e w5 ⟨rfl, hp5, hf5⟩
            have hQ5 := Blk.fr hQ4 hf5 (by omega)
            have hR5 := Blk.fr hR4 hf5 (by omega)
            have hfr5 := hfr4.thenr hf5 (fun _ _ h => h)
            have hrow5 := row_fr hrow4 hf5 (fun k hk e => by have := hlo k hk; omega)
            have htb := tkI_bd s 58 58 (nuI s (cmI s a.length j) (cmB s a.length j)) (nuB s (cmI s a.length j) (cmB s a.length j)) hnb.2
            clear hp4 hQ4 hR4 hfr4 hrow4 hf5
            go_wp2_with fail
            refine (digits_any _ b s _ _ v3 v4 v5 v6 hp5 hs htb.2).mono ?_
            rintro e w6 ⟨rfl, hp6, hf6⟩
            change PenB w6 b s (dcI s (cmI s a.length j) (cmB s a.length j)) (dcB s (cmI s a.length j) (cmB s a.length j)) v3 v4 v5 v6 at hp6
            have hQ6 := Blk.fr hQ5 hf6 (by omega)
            have hR6 := Blk.fr hR5 hf6 (by omega)
            have hfr6 := hfr5.thenr hf6 (fun _ _ h => h)
            have hrow6 := row_fr hrow5 hf6 (fun k hk e => by have := hlo k hk; omega)
            have hdb := dcI_bd s (cmI s a.length j) (cmB s a.length j) hcj.2
            have HBB : Hid (dcB s (cmI s a.length j) (cmB s a.length j) = -1 ∨ 0 ≤ dcB s (cmI s a.length j) (cmB s a.length j)) := by
              rcases HC2.out with ⟨h, -⟩ | ⟨h, -⟩
              · exact Or.inl h
              · exact Or.inr h
            clear hp5 hQ5 hR5 hfr5 hrow5 hf6
            rw [show nuV s (cmI s a.length j) (cmB s a.length j) = (dcC s (cmI s a.length j) (cmB s a.length j)).dst from rfl, show dgS s (tkI s 58 58 (nuI s (cmI s a.length j) (cmB s a.length j)) (nuB s (cmI s a.length j) (cmB s a.length j))) (tkB s 58 58 (nuI s (cmI s a.length j) (cmB s a.length j)) (nuB s (cmI s a.length j) (cmB s a.length j))) = (dcC s (cmI s a.length j) (cmB s a.length j)).acts from rfl]
            generalize dcC s (cmI s a.length j) (cmB s a.length j) = cx at *
            generalize dcI s (cmI s a.length j) (cmB s a.length j) = jx at *
            generalize dcB s (cmI s a.length j) (cmB s a.length j) = bx at *
            have x2 : w6.cell? ⟨w.heap.size + 1, 2, none⟩ = some (.slice ca a.length cc) := by rw [Blk.cell hR6]; rfl
            have hR6l := Blk.lt hR6
            have hbl6 := Blk.lt hp6
            go_wp2_with (at_builtin; go_must (refine wpList_append1 rfl _ _ _ rfl _ 2 24 elemDCell _ a.length (a.flatMap clD) rfl (by exact hrow6.alloc _) ⟨w6.heap.size, 0, none⟩ 1 (clD cx) rfl rfl (by exact cells_new (Blk.new' _ _ _ _ (by simp))) (by intro u hu; simp [clD] at hu; rcases hu with rfl | rfl <;> rfl) (by unfold maxLen; omega) (by omega) ?_); intro g cap w7 hrow7 hgrow hgo; have hG7 : Fr (fun j => (Value.slice ca a.length cc).ownBlock = some j) _ w7 := Fr.grown (fun j => (Value.slice ca a.length cc).ownBlock = some j) hgrow (fun _ e => e); have hp7 : PenB w7 b s jx bx v3 v4 v5 v6 := Blk.fr (Blk.alloc hp6 _) hG7 (fun e => by have := hlo b e; omega); have hR7 := Blk.fr (Blk.alloc hR6 _) hG7 (fun e => by have := hlo _ e; omega); have hQ7 := Blk.fr (Blk.alloc hQ6 _) hG7 (fun e => by have := hlo _ e; omega); have m2 : w7.cell? ⟨w.heap.size + 1, 2, none⟩ = some (.slice ca a.length cc) := by { rw [Blk.cell hR7]; rfl }; have mz := Blk.frozen hR7 2)
            have hlo7 : w.heap.size + 2 ≤ g := by
              rcases hgo with e | e
              · exact hlo g e
              · simp at e; omega
            have hfr7 : Fr (· = b) w w7 := (hfr6.allocr _).thenr hG7 (fun j hj e => by have := hlo j e; omega)
            go_roundg (wd + 1 - (a.length + 1))
            case measure => omega
            case rel =>
              refine ⟨a.length + 1, jx, bx, a ++ [cx], .slice (some ⟨g, 0, none⟩) (a.length + 1) cap, by go_num, Blk.other hp7 _ _ (by show b ≠ w.heap.size + 1; omega), by omega, by omega, by omega, by simp, HBB.out, Blk.set hR7 2 _, Blk.other hQ7 _ _ (by show w.heap.size ≠ w.heap.size + 1; omega), ?_, ?_, hfr7.setCellr _ _ (Or.inr (by show w.heap.size ≤ w.heap.size + 1; omega)), HC2, Nat.le_refl _⟩
              · have h8 := row_fr hrow7 (Fr.setCell (· = w.heap.size + 1) w7 ⟨w.heap.size + 1, 2, none⟩ (.slice (some ⟨g, 0, none⟩) (a.length + 1) cap) rfl) (fun k hk e => by simp only [Value.ownBlock, Option.some.injEq] at hk; omega)
                simpa using h8
              · intro k hk
                simp only [Value.ownBlock, Option.some.injEq] at hk
                omega
        · have hkk' : decide (a.length < wd) = false := by simp; omega
          have hcl : clF s wd i [] = (true, j, a) := by
            rcases HC.out with ⟨-, -, h⟩ | ⟨h, -⟩
            · rw [h, show wd - a.length = 0 by omega]; rfl
            · omega
          have HOK : Hid (byte s j = 59 → rowP s wd i = (true, j + 1, ⟨i, -1, a, cut s i j⟩)) := by
            show _ → _; intro h; unfold rowP; simp only; rw [if_neg H61.out, hcl, if_neg (by simp), if_neg (fun h' => h' h)]
          have HNO : Hid (byte s j ≠ 59 → rowP s wd i = (false, j, ⟨0, 0, [], ⟨#[]⟩⟩)) := by
            show _ → _; intro h; unfold rowP; simp only; rw [if_neg H61.out, hcl, if_neg (by simp), if_pos h]
          clear hcl HC hbad hb0
          have x0 : wr.cell? ⟨w.heap.size + 1, 0, none⟩ = some (.int .i64 i) := by rw [Blk.cell hR]; rfl
          have x3 : wr.cell? ⟨w.heap.size + 1, 3, none⟩ = some (.string ⟨#[]⟩) := by rw [Blk.cell hR]; rfl
          have z3 := Blk.frozen hR 3
          go_wp2_with fail
          go_region
          all_goals
            go_wp2_with fail
            rw [extract_cut]
            have hp5 : PenB ((wr.setCell ⟨w.heap.size + 1, 3, none⟩ (.string (cut s i j))).drew) b s j (-1) v3 v4 v5 v6 := Blk.drew (Blk.other hpk _ _ (by show b ≠ w.heap.size + 1; omega))
            have hQ5 := Blk.drew (Blk.other hQ ⟨w.heap.size + 1, 3, none⟩ (.string (cut s i j)) (by show w.heap.size ≠ w.heap.size + 1; omega))
            have hR5 : Blk ((wr.setCell ⟨w.heap.size + 1, 3, none⟩ (.string (cut s i j))).drew) (w.heap.size + 1) #[.int .i64 i, .int .i64 (-1), .slice ca a.length cc, .string (cut s i j)] 108 := Blk.drew (Blk.set hR 3 _)
            have hfr5 := (hfr.setCellr ⟨w.heap.size + 1, 3, none⟩ (.string (cut s i j)) (Or.inr (by show w.heap.size ≤ w.heap.size + 1; omega))).drewr
            have hrow5 : ((wr.setCell ⟨w.heap.size + 1, 3, none⟩ (.string (cut s i j))).drew).ownsRow 0 71 2 (.slice ca a.length cc) a.length (a.flatMap clD) := row_fr (row_fr hrow (Fr.setCell (· = w.heap.size + 1) wr ⟨w.heap.size + 1, 3, none⟩ (.string (cut s i j)) rfl) (fun k hk e => by have := hlo k hk; omega)) (Fr.drew (fun _ => False) _) (fun _ _ h => h)
            generalize (wr.setCell ⟨w.heap.size + 1, 3, none⟩ (.string (cut s i j))).drew = W5 at hp5 hQ5 hR5 hfr5 hrow5 ⊢
            clear hpk hQ hR hfr hrow x0 x3 z3 c0 c1 c2
            refine (take_at _ b s 59 59 59 59 rfl rfl (j) (-1) v3 v4 v5 v6 hp5 (by omega)).mono ?_
            rintro e w6 ⟨rfl, hp6, hf6⟩
            have hQ6 := Blk.fr hQ5 hf6 (by omega)
            have hR6 := Blk.fr hR5 hf6 (by omega)
            have hfr6 := hfr5.thenr hf6 (fun _ _ h => h)
            have hrow6 := row_fr hrow5 hf6 (fun k hk e => by have := hlo k hk; omega)
            by_cases h59 : byte s (j) = 59
            · have HE : Hid _ := HOK.out h59
              have hk : tkOk s 59 59 (j) = true := by rw [tkOk_1 s 59 _ (by decide)]; simp [h59]
              rw [show tkI s 59 59 (j) (-1) = j + 1 by simp [tkI, hk], show tkB s 59 59 (j) (-1) = -1 by simp [tkB, hk]] at hp6
              clear h59 hk HOK HNO
              have q0 : w6.cell? ⟨w.heap.size, 0, none⟩ = some (.int .i64 0) := by rw [Blk.cell hQ6]; rfl
              have q1 : w6.cell? ⟨w.heap.size, 1, none⟩ = some (.int .i64 0) := by rw [Blk.cell hQ6]; rfl
              have q2 : w6.cell? ⟨w.heap.size, 2, none⟩ = some (.slice none 0 0) := by rw [Blk.cell hQ6]; rfl
              have q3 : w6.cell? ⟨w.heap.size, 3, none⟩ = some (.string ⟨#[]⟩) := by rw [Blk.cell hQ6]; rfl
              have y0 := Blk.frozen hQ6 0
              have y1 := Blk.frozen hQ6 1
              have y2 := Blk.frozen hQ6 2
              have y3 := Blk.frozen hQ6 3
              have r0 : w6.cell? ⟨w.heap.size + 1, 0, none⟩ = some (.int .i64 i) := by rw [Blk.cell hR6]; rfl
              have r1 : w6.cell? ⟨w.heap.size + 1, 1, none⟩ = some (.int .i64 (-1)) := by rw [Blk.cell hR6]; rfl
              have r2 : w6.cell? ⟨w.heap.size + 1, 2, none⟩ = some (.slice ca a.length cc) := by rw [Blk.cell hR6]; rfl
              have r3 : w6.cell? ⟨w.heap.size + 1, 3, none⟩ = some (.string (cut s i j)) := by rw [Blk.cell hR6]; rfl
              go_wp2_with fail
              refine bodyPost_ret (v := .agg #[.int .i64 i, .int .i64 (-1), .slice ca a.length cc, .string (cut s i j)]) (by simp [results, Tryz.results60, go_sem, q0, q1, q2, q3]) rfl ⟨fun _ => ⟨.slice ca a.length cc, ?_, ?_, ?_, ?_⟩, fun h => ?_, ?_⟩
              · rw [HE.out]; simp [RwH.dcells, dText]
              · rw [HE.out]; exact blk4 hp6 _ (by omega) _ _ _ _
              · rw [HE.out]; exact row_fr hrow6 (fr4 (S := fun k => k = w.heap.size) (Fr.refl _ _) w.heap.size (Or.inl rfl) _ _ _ _) (fun k hk e => by have := hlo k hk; omega)
              · intro k hk; have := hlo k hk; omega
              · rw [HE.out] at h; cases h
              · exact fr4 hfr6 _ (Or.inr (Nat.le_refl _)) _ _ _ _
            · have HE : Hid _ := HNO.out h59
              have hk : tkOk s 59 59 (j) = false := by rw [tkOk_1 s 59 _ (by decide)]; simp [h59]
              rw [show tkB s 59 59 (j) (-1) = ((j : Nat) : Int) by simp [tkB, hk]] at hp6
              clear h59 hk HOK HNO
              have q0 : w6.cell? ⟨w.heap.size, 0, none⟩ = some (.int .i64 0) := by rw [Blk.cell hQ6]; rfl
              have q1 : w6.cell? ⟨w.heap.size, 1, none⟩ = some (.int .i64 0) := by rw [Blk.cell hQ6]; rfl
              have q2 : w6.cell? ⟨w.heap.size, 2, none⟩ = some (.slice none 0 0) := by rw [Blk.cell hQ6]; rfl
              have q3 : w6.cell? ⟨w.heap.size, 3, none⟩ = some (.string ⟨#[]⟩) := by rw [Blk.cell hQ6]; rfl
              have y0 := Blk.frozen hQ6 0
              have y1 := Blk.frozen hQ6 1
              have y2 := Blk.frozen hQ6 2
              have y3 := Blk.frozen hQ6 3
              have r0 : w6.cell? ⟨w.heap.size + 1, 0, none⟩ = some (.int .i64 i) := by rw [Blk.cell hR6]; rfl
              have r1 : w6.cell? ⟨w.heap.size + 1, 1, none⟩ = some (.int .i64 (-1)) := by rw [Blk.cell hR6]; rfl
              have r2 : w6.cell? ⟨w.heap.size + 1, 2, none⟩ = some (.slice ca a.length cc) := by rw [Blk.cell hR6]; rfl
              have r3 : w6.cell? ⟨w.heap.size + 1, 3, none⟩ = some (.string (cut s i j)) := by rw [Blk.cell hR6]; rfl
              go_wp2_with fail
              refine bodyPost_ret (v := .agg #[.int .i64 i, .int .i64 (-1), .slice ca a.length cc, .string (cut s i j)]) (by simp [results, Tryz.results60, go_sem, q0, q1, q2, q3]) rfl ⟨fun h => ?_, fun _ => ⟨_, _, _, _, _, _, rfl, ?_⟩, ?_⟩
              · rw [HE.out] at h; cases h
              · rw [HE.out]; exact ⟨_, blk4 hp6 _ (by omega) _ _ _ _⟩
              · exact fr4 hfr6 _ (Or.inr (Nat.le_refl _)) _ _ _ _
end Go.Proofs.YtmolmbeeoecnfaaGreatDoor
