/- Own work: walks of the program's reader: readConditions. -/
import Derived.Test.YtmolmbeeoecnfaaRData
import Derived.Test.YtmolmbeeoecnfaaPure2
namespace Go.Proofs.Ytmolmbeeoecnfaa
open Go.RowKit Go.BigFrame
set_option linter.unusedVariables false
set_option linter.unusedSimpArgs false

/-- The conditions from i on, behind those of a; f: fuel: right?, where, which. -/
def rcF (s : ByteArray) : Nat → Nat → List CdP → Bool × Nat × List CdP
  | 0, i, a => (true, i, a)
  | f + 1, i, a => if isC (byte s i) = true then (if isN (byte s (i + 1)) = true then rcF s f (i + 2) (a ++ [⟨byte s (i + 1), i + 1, -1, byte s i == 38⟩]) else (false, i + 1, a)) else (true, i, a)
def rcP (s : ByteArray) (i : Nat) (a : List CdP) : Bool × Nat × List CdP := rcF s (s.size - i) i a

theorem isC_b (s : ByteArray) (i : Nat) (h : isC (byte s i) = true) : i < s.size := by
  by_cases e : i < s.size
  · exact e
  · rw [byte_out s i e] at h; simp [isC] at h
theorem isN_b (s : ByteArray) (i : Nat) (h : isN (byte s i) = true) : i < s.size := by
  by_cases e : i < s.size
  · exact e
  · rw [byte_out s i e] at h; simp [isN] at h

theorem rcF_more (s : ByteArray) : ∀ (f g i : Nat) (a : List CdP), s.size - i ≤ f → s.size - i ≤ g → rcF s f i a = rcF s g i a
  | 0, 0, _, _, _, _ => rfl
  | 0, g + 1, i, a, h1, _ => by
    simp only [rcF]
    split
    · have := isC_b s i ‹_›; omega
    · rfl
  | f + 1, 0, i, a, _, h2 => by
    simp only [rcF]
    split
    · have := isC_b s i ‹_›; omega
    · rfl
  | f + 1, g + 1, i, a, h1, h2 => by
    simp only [rcF]
    split
    · split
      · exact rcF_more s f g _ _ (by omega) (by omega)
      · rfl
    · rfl
theorem rcP_go (s : ByteArray) (i : Nat) (a : List CdP) (h : isC (byte s i) = true) (h2 : isN (byte s (i + 1)) = true) : rcP s i a = rcP s (i + 2) (a ++ [⟨byte s (i + 1), i + 1, -1, byte s i == 38⟩]) := by
  have := isC_b s i h
  unfold rcP
  rw [show s.size - i = (s.size - (i + 1)) + 1 by omega]
  simp only [rcF]
  rw [if_pos h, if_pos h2]
  exact rcF_more s _ _ _ _ (by omega) (by omega)
theorem rcP_bad (s : ByteArray) (i : Nat) (a : List CdP) (h : isC (byte s i) = true) (h2 : isN (byte s (i + 1)) = false) : rcP s i a = (false, i + 1, a) := by
  have := isC_b s i h
  unfold rcP
  rw [show s.size - i = (s.size - (i + 1)) + 1 by omega]
  simp only [rcF]
  rw [if_pos h, if_neg (by simp [h2])]
theorem rcP_stop (s : ByteArray) (i : Nat) (a : List CdP) (h : isC (byte s i) = false) : rcP s i a = (true, i, a) := by
  unfold rcP
  cases s.size - i with
  | zero => rfl
  | succ n => simp [rcF, h]

/-- What a call that reads and may refuse leaves behind. -/
def CdPost (s : ByteArray) (b : Nat) (i : Nat) (w : World) (e : Ending) (w' : World) : Prop :=
  ∃ cv, e = .returned (.tuple #[cv, .bool (rcP s i []).1]) ∧ RdB w' b s (rcP s i []).2.1 ∧ Fr (· = b) w w' ∧ w'.ownsRow 0 153 4 cv (rcP s i []).2.2.length ((rcP s i []).2.2.flatMap CdP.cells) ∧ (∀ k, cv.ownBlock = some k → w.heap.size ≤ k) ∧ (rcP s i []).2.2.length ≤ s.size

set_option maxRecDepth 100000 in
set_option maxHeartbeats 1000000 in
theorem readConds_any (w : World) (b : Nat) (s : ByteArray) (i : Nat) (hp : RdB w b s i) (hs : s.size ≤ 1000000) (hn : i ≤ s.size) :
    Calls Try.prog 117 #[.pointer (some ⟨b, 0, none⟩)] w (CdPost s b i w) := by
  have hbl := Blk.lt hp
  go_enter Try.func117, Try.ntmps117
  go_wp2_with fail
  refine (next_any _ b s i (by exact Blk.alloc hp _)).mono ?_
  rintro e w1 ⟨rfl, n1, rfl⟩
  go_wp2_with fail
  go_loopg [4, 5] (s.size + 1 - i) (fun g vc vs wr => ∃ (k : Nat) (a : List CdP) (cv : Value), RdB wr b s k ∧ Fr (· = b) w wr ∧ wr.ownsRow 0 153 4 cv a.length (a.flatMap CdP.cells) ∧ (∀ j, cv.ownBlock = some j → w.heap.size ≤ j) ∧ vc = cv ∧ vs = .int .u8 (byte s k).toNat ∧ Hid (rcP s i [] = rcP s k a) ∧ a.length ≤ k ∧ k ≤ s.size ∧ s.size + 1 - k ≤ g)
  case atStart =>
    refine ⟨i, [], _, Blk.drewN (Blk.alloc hp _) n1, ((Fr.refl _ _).allocr _).drewNr n1, World.ownsRow_made w #[] 0 (Nat.zero_le _) (Nat.zero_le _) rfl, ?_, rfl, rfl, rfl, Nat.zero_le _, hn, Nat.le_refl _⟩
    intro j hj
    simp only [Value.ownBlock, Option.some.injEq] at hj
    omega
  case round =>
    obtain ⟨k, a, cv, hpk, hfr, hrow, hlo, hcv, rfl, HC, hak, hks, hg⟩ := hrel
    have hcv' := hcv.symm
    clear hcv
    subst hcv'
    obtain ⟨c0, c1, hfz⟩ := hpk.cells
    have z1 := hfz 1
    have hblk := Blk.lt hpk
    clear hfz
    by_cases hc : isC (byte s k) = true
    · have hki := isC_b s k hc
      have hc38 : ((((byte s k).toNat : Int) == 38) = true ∧ Hid ((byte s k == 38) = true)) ∨ ((((byte s k).toNat : Int) == 38) = false ∧ (((byte s k).toNat : Int) == 33) = true ∧ Hid ((byte s k == 38) = false)) := by
        cases e : (((byte s k).toNat : Int) == 38)
        · refine Or.inr ⟨rfl, ?_, ?_⟩
          · rcases (isC_iff _).1 hc with h | h
            · rw [e] at h; cases h
            · exact h
          · show _ = _
            rw [beq_eq_false_iff_ne] at e ⊢
            intro h
            rw [h] at e
            exact e rfl
        · refine Or.inl ⟨rfl, ?_⟩
          show _ = _
          rw [beq_iff_eq] at e ⊢
          exact UInt8.toNat_inj.1 (by show _ = 38; omega)
      have HC1 : Hid (isC (byte s k) = true) := hc
      clear hc
      by_cases hd : isN (byte s (k + 1)) = true
      · have hkj := isN_b s (k + 1) hd
        have HC2 : Hid (rcP s i [] = rcP s (k + 2) (a ++ [⟨byte s (k + 1), k + 1, -1, byte s k == 38⟩])) := HC.out.trans (rcP_go s k a HC1.out hd)
        have HD : Hid (isN (byte s (k + 1)) = true) := hd
        clear hd
        rcases hc38 with ⟨h1, HA⟩ | ⟨h0, h1, HA⟩
        all_goals
          go_wp2_with fail
          refine (readRef_any _ b s (k + 1) (by exact Blk.set hpk 1 _) hs (by omega)).mono ?_
          rintro e w2 ⟨hy, -, hf2⟩
          obtain ⟨rfl, hp2⟩ := hy HD.out
          clear hy
          have hfr2 : Fr (· = b) w w2 := (hfr.setCellr _ _ (Or.inl rfl)).thenr hf2 (fun _ _ h => h)
          have hrow2 : w2.ownsRow 0 153 4 cv a.length (a.flatMap CdP.cells) := row_fr (row_fr hrow (Fr.setCell (· = b) _ ⟨b, 1, none⟩ (.int .i64 ((k : Int) + 1)) rfl) (fun j hj e => by have := hlo j hj; omega)) hf2 (fun j hj e => by have := hlo j hj; omega)
          have hbl2 := Blk.lt hp2
          clear hf2 hfr hrow c0 c1 z1 hblk
          obtain ⟨c0, c1, hfz⟩ := hp2.cells
          clear hfz
          go_wp2_with (at_builtin; go_must (refine wpList_append1 rfl _ _ _ rfl _ 4 32 elemCond _ a.length (a.flatMap CdP.cells) rfl (by exact (hrow2.alloc _).alloc _) ⟨w2.heap.size + 1, 0, none⟩ 1 (CdP.cells ⟨byte s (k + 1), k + 1, -1, byte s k == 38⟩) rfl rfl (by rw [show CdP.cells ⟨byte s (k + 1), k + 1, -1, byte s k == 38⟩ = [.int .u8 (byte s (k + 1)).toNat, .int .i64 ((k + 1 : Nat) : Int), .int .i64 (-1), .bool _] from rfl, HA.out]; exact cells_new (Blk.new' _ _ _ _ (by simp))) (by intro u hu; simp [CdP.cells] at hu; rcases hu with rfl | rfl | rfl | rfl <;> rfl) (by unfold maxLen; omega) (by omega) ?_); intro g cap w3 hrow3 hgrow hgo)
          have hG3 : Fr (fun j => cv.ownBlock = some j) _ w3 := Fr.grown (fun j => cv.ownBlock = some j) hgrow (fun _ e => e)
          have hp3 : RdB w3 b s (k + 2) := Blk.fr (Blk.alloc (Blk.alloc hp2 _) _) hG3 (fun e => by have := hlo b e; omega)
          have hfr3 : Fr (· = b) w w3 := ((hfr2.allocr _).allocr _).thenr hG3 (fun j hj e => by have := hlo j e; omega)
          have hlo3 : w.heap.size ≤ g := by
            rcases hgo with e | e
            · exact hlo g e
            · have := hfr2.size; simp at e; omega
          refine (next_any _ b s (k + 2) hp3).mono ?_
          rintro e w4 ⟨rfl, n4, rfl⟩
          go_wp2_with fail
          go_roundg (s.size + 1 - (k + 2))
          case measure => omega
          case rel =>
            refine ⟨k + 2, a ++ [⟨byte s (k + 1), k + 1, -1, byte s k == 38⟩], _, Blk.drewN hp3 _, hfr3.drewNr _, ?_, ?_, rfl, rfl, HC2, by simp; omega, by omega, Nat.le_refl _⟩
            · have h5 : (w3.drewN n4).ownsRow 0 153 4 _ _ _ := row_fr hrow3 (Fr.drewN (fun _ => False) w3 n4) (fun _ _ h => h)
              simpa using h5
            · intro j hj
              simp only [Value.ownBlock, Option.some.injEq] at hj
              omega
      · have hd' : isN (byte s (k + 1)) = false := by simpa using hd
        have HC2 : Hid (rcP s i [] = (false, k + 1, a)) := HC.out.trans (rcP_bad s k a HC1.out hd')
        have HD : Hid (isN (byte s (k + 1)) = false) := hd'
        clear hd hd'
        rcases hc38 with ⟨h1, HA⟩ | ⟨h0, h1, HA⟩
        all_goals
          go_wp2_with fail
          refine (readRef_any _ b s (k + 1) (by exact Blk.set hpk 1 _) hs (by omega)).mono ?_
          rintro e w2 ⟨-, hy, hf2⟩
          obtain ⟨rfl, hp2⟩ := hy HD.out
          clear hy
          have hfr2 : Fr (· = b) w w2 := (hfr.setCellr _ _ (Or.inl rfl)).thenr hf2 (fun _ _ h => h)
          have hrow2 : w2.ownsRow 0 153 4 cv a.length (a.flatMap CdP.cells) := row_fr (row_fr hrow (Fr.setCell (· = b) _ ⟨b, 1, none⟩ (.int .i64 ((k : Int) + 1)) rfl) (fun j hj e => by have := hlo j hj; omega)) hf2 (fun j hj e => by have := hlo j hj; omega)
          clear hf2 hfr hrow c0 c1 z1 hblk
          go_wp2_with fail
          go_ret2
          exact ⟨cv, by rw [HC2.out]; rfl, by rw [HC2.out]; exact Blk.alloc hp2 _, hfr2.allocr _, by rw [HC2.out]; exact hrow2.alloc _, hlo, by rw [HC2.out]; show a.length ≤ s.size; omega⟩
    · have hc' : isC (byte s k) = false := by simpa using hc
      have HC2 : Hid (rcP s i [] = (true, k, a)) := HC.out.trans (rcP_stop s k a hc')
      have h38 : (((byte s k).toNat : Int) == 38) = false := by
        cases e : (((byte s k).toNat : Int) == 38)
        · rfl
        · exact absurd ((isC_iff _).2 (Or.inl e)) hc
      have h33 : (((byte s k).toNat : Int) == 33) = false := by
        cases e : (((byte s k).toNat : Int) == 33)
        · rfl
        · exact absurd ((isC_iff _).2 (Or.inr e)) hc
      clear hc hc'
      go_wp2_with fail
      go_ret2
      exact ⟨cv, by rw [HC2.out]; rfl, by rw [HC2.out]; exact hpk, hfr, by rw [HC2.out]; exact hrow, hlo, by rw [HC2.out]; show a.length ≤ s.size; omega⟩
end Go.Proofs.Ytmolmbeeoecnfaa
