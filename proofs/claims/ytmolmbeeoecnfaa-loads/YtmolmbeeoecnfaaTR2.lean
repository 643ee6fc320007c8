/- Own work: walks of the program's table reader: readCells. -/
import Derived.Test.YtmolmbeeoecnfaaTR1
import Derived.Test.YtmolmbeeoecnfaaApp
import Derived.Test.YtmolmbeeoecnfaaFlat
import Derived.Test.YtmolmbeeoecnfaaData
namespace Go.Proofs.Ytmolmbeeoecnfaa
open Go.RowKit Go.BigFrame
set_option linter.unusedVariables false
set_option linter.unusedSimpArgs false

def clQ (x : Cl) : List Value := [.int .i64 (min x.dst 99 : Nat), .string x.acts]
theorem clQ_len (x : Cl) : (clQ x).length = 2 := rfl
theorem elemCell : ElemOk Try.prog 142 146 2 24 where
  ht := Try.underlying142
  info := by
    obtain ⟨i, h0, h1, h2, h3⟩ := info_parts (show (Try.prog.info? 146).map (fun i => (i.zero, i.size, i.bytes)) = some (some (.agg #[.int .i64 0, .string ⟨#[]⟩]), 2, 24) by kernel_rfl)
    exact ⟨i, _, h0, h1, h2, h3, rfl⟩
  pos := by decide

theorem clF_go (s : ByteArray) (wd k : Nat) (a : List Cl) (h : a.length < wd) (hc : a = [] ∨ byte s k = 44) (hk : (cellP s (clJ a k)).1 = true) :
    clF s (wd - a.length) k a = clF s (wd - (a ++ [(cellP s (clJ a k)).2.2]).length) (cellP s (clJ a k)).2.1 (a ++ [(cellP s (clJ a k)).2.2]) := by
  rw [show wd - a.length = (wd - (a ++ [(cellP s (clJ a k)).2.2]).length) + 1 by simp; omega]
  conv => lhs; simp only [clF]
  rw [if_neg (fun h => hc.elim h.1 h.2), if_neg (by simp [hk])]
theorem clF_bad (s : ByteArray) (wd k : Nat) (a : List Cl) (h : a.length < wd) (hc : a = [] ∨ byte s k = 44) (hk : (cellP s (clJ a k)).1 = false) :
    clF s (wd - a.length) k a = (false, (cellP s (clJ a k)).2.1, a) := by
  rw [show wd - a.length = (wd - (a.length + 1)) + 1 by omega]
  conv => lhs; simp only [clF]
  rw [if_neg (fun h => hc.elim h.1 h.2), if_pos hk]
theorem clF_no (s : ByteArray) (wd k : Nat) (a : List Cl) (h : a.length < wd) (h0 : a ≠ []) (hc : byte s k ≠ 44) :
    clF s (wd - a.length) k a = (false, k, a) := by
  rw [show wd - a.length = (wd - (a.length + 1)) + 1 by omega]
  conv => lhs; simp only [clF]
  rw [if_pos ⟨h0, hc⟩]

def ClPost (s : ByteArray) (b i wd : Nat) (w : World) (e : Ending) (w' : World) : Prop :=
  ∃ cv, e = .returned (.tuple #[cv, .bool (clF s wd i []).1]) ∧ RdB w' b s (clF s wd i []).2.1 ∧ Fr (· = b) w w' ∧ w'.ownsRow 0 146 2 cv (clF s wd i []).2.2.length ((clF s wd i []).2.2.flatMap clQ) ∧ (∀ k, cv.ownBlock = some k → w.heap.size ≤ k)

set_option maxRecDepth 100000 in
set_option maxHeartbeats 1000000 in
theorem readCells_any (w : World) (b : Nat) (s : ByteArray) (i wd : Nat) (hp : RdB w b s i) (hs : s.size ≤ 1000000) (hn : i ≤ s.size) (hw : wd ≤ s.size) :
    Calls Try.prog 111 #[.pointer (some ⟨b, 0, none⟩), .int .i64 wd] w (ClPost s b i wd w) := by
  have hbl := Blk.lt hp
  go_enter Try.func111, Try.ntmps111
  go_wp2_with fail
  go_loopg [6] (s.size + 1 - i) (fun g vc wr => ∃ (k : Nat) (a : List Cl) (cv : Value), RdB wr b s k ∧ Fr (· = b) w wr ∧ wr.ownsRow 0 146 2 cv a.length (a.flatMap clQ) ∧ (∀ j, cv.ownBlock = some j → w.heap.size ≤ j) ∧ vc = cv ∧ Hid (clF s wd i [] = clF s (wd - a.length) k a) ∧ a.length ≤ k ∧ k ≤ s.size ∧ s.size + 1 - k ≤ g ∧ a.length ≤ wd)
  case atStart =>
    refine ⟨i, [], _, Blk.alloc hp _, ((Fr.refl _ _).allocr _), World.ownsRow_made w #[] 0 (Nat.zero_le _) (Nat.zero_le _) rfl, ?_, rfl, rfl, Nat.zero_le _, hn, Nat.le_refl _, Nat.zero_le _⟩
    intro j hj
    simp only [Value.ownBlock, Option.some.injEq] at hj
    omega
  case round =>
    obtain ⟨k, a, cv, hpk, hfr, hrow, hlo, hcv, HC, hak, hks, hg, haw⟩ := hrel
    subst hcv
    obtain ⟨ca, cc, hcv⟩ := row_len hrow
    subst hcv
    have hblk := Blk.lt hpk
    by_cases hw1 : (a.length : Int) < wd
    · by_cases ha : a = []
      · have HA : Hid (a = [] ∨ byte s k = 44) := Or.inl ha
        have HJ : Hid (clJ a k = k) := by show _ = _; rw [clJ, if_pos ha]
        have hl0 : decide (0 < a.length) = false := by rw [ha]; rfl
        have hpJ := hpk
        have hfrJ := hfr
        have hrowJ := hrow
        have hjs : k ≤ s.size := hks
        clear ha hpk hfr hrow
        go_wp2_with fail
        refine (readCell_any _ b s (k) hpJ hs hjs).mono ?_
        rintro e w2 ⟨hyes, hno, hp2, hf2⟩
        have hbd := cellP_bd s (k) hjs
        have hfr2 := hfrJ.thenr hf2 (fun _ _ h => h)
        have hrow2 := row_fr hrowJ hf2 (fun j hj e => by have := hlo j hj; omega)
        clear hpJ hfrJ hrowJ hf2
        by_cases hok : (cellP s (k)).1 = true
        · have HE : Hid _ := hyes hok
          have hlt := hbd.2.2 hok
          have HC2 : Hid _ := HC.out.trans (clF_go s wd k a (by omega) HA.out (by rw [HJ.out]; exact hok))
          clear hyes hno hok HC
          rw [HE.out]
          clear HE
          generalize hcx : (cellP s (k)).2.2 = cx at *
          generalize hkx : (cellP s (k)).2.1 = kx at *
          have HC3 : Hid (clF s wd i [] = clF s (wd - (a ++ [cx]).length) kx (a ++ [cx])) := by show _ = _; rw [HC2.out, HJ.out, hcx, hkx]
          clear HC2 hcx hkx
          go_wp2_with (at_builtin; go_must (refine wpList_append1 rfl _ _ _ rfl _ 2 24 elemCell _ a.length (a.flatMap clQ) rfl (by exact (hrow2.alloc _).alloc _) ⟨w2.heap.size + 1, 0, none⟩ 1 (clQ cx) rfl rfl (by exact cells_new (Blk.new' _ _ _ _ (by simp))) (by intro u hu; simp [clQ] at hu; rcases hu with rfl | rfl <;> rfl) (by unfold maxLen; omega) (by omega) ?_); intro g cap w3 hrow3 hgrow hgo)
          have hG3 : Fr (fun j => (Value.slice ca a.length cc).ownBlock = some j) _ w3 := Fr.grown (fun j => (Value.slice ca a.length cc).ownBlock = some j) hgrow (fun _ e => e)
          have hp3 : RdB w3 b s kx := Blk.fr (Blk.alloc (Blk.alloc hp2 _) _) hG3 (fun e => by have := hlo b e; omega)
          have hfr3 : Fr (· = b) w w3 := ((hfr2.allocr _).allocr _).thenr hG3 (fun j hj e => by have := hlo j e; omega)
          have hlo3 : w.heap.size ≤ g := by
            rcases hgo with e | e
            · exact hlo g e
            · have := hfr2.size; simp at e; omega
          go_roundg (s.size + 1 - kx)
          case measure => omega
          case rel =>
            refine ⟨kx, a ++ [cx], _, hp3, hfr3, ?_, ?_, rfl, HC3, by simp; omega, by omega, Nat.le_refl _, by simp; omega⟩
            · simpa using hrow3
            · intro j hj
              simp only [Value.ownBlock, Option.some.injEq] at hj
              omega
        · have hok' : (cellP s (k)).1 = false := by simpa using hok
          have HE : Hid _ := hno hok'
          have HC2 : Hid (clF s wd i [] = (false, (cellP s (k)).2.1, a)) := by show _ = _; rw [HC.out, clF_bad s wd k a (by omega) HA.out (by rw [HJ.out]; exact hok'), HJ.out]
          clear hyes hno hok hok' HC
          rw [HE.out]
          clear HE
          go_wp2_with fail
          go_ret2
          exact ⟨_, by rw [HC2.out]; rfl, by rw [HC2.out]; exact Blk.alloc hp2 _, hfr2.allocr _, by rw [HC2.out]; exact hrow2.alloc _, hlo⟩
      · have hl0 : (0 : Int) < a.length := by
          have := List.length_pos_iff.2 ha; omega
        by_cases h44 : byte s k = 44
        · have HA : Hid (a = [] ∨ byte s k = 44) := Or.inr h44
          have HJ : Hid (clJ a k = k + 1) := by show _ = _; rw [clJ, if_neg ha]
          have H44 : Hid (byte s k = 44) := h44
          have hjs : k + 1 ≤ s.size := sg_in s 44 k (by decide) h44
          clear ha h44
          go_wp2_with fail
          refine (skip_yes _ b s 44 _ rfl k hpk hs (by decide) H44.out).mono ?_
          rintro e w1 ⟨rfl, hpJ, hf1⟩
          have hfrJ := hfr.thenr hf1 (fun _ _ h => h)
          have hrowJ := row_fr hrow hf1 (fun j hj e => by have := hlo j hj; omega)
          clear hpk hfr hrow hf1
          go_wp2_with fail
          refine (readCell_any _ b s (k + 1) hpJ hs hjs).mono ?_
          rintro e w2 ⟨hyes, hno, hp2, hf2⟩
          have hbd := cellP_bd s (k + 1) hjs
          have hfr2 := hfrJ.thenr hf2 (fun _ _ h => h)
          have hrow2 := row_fr hrowJ hf2 (fun j hj e => by have := hlo j hj; omega)
          clear hpJ hfrJ hrowJ hf2
          by_cases hok : (cellP s (k + 1)).1 = true
          · have HE : Hid _ := hyes hok
            have hlt := hbd.2.2 hok
            have HC2 : Hid _ := HC.out.trans (clF_go s wd k a (by omega) HA.out (by rw [HJ.out]; exact hok))
            clear hyes hno hok HC
            rw [HE.out]
            clear HE
            generalize hcx : (cellP s (k + 1)).2.2 = cx at *
            generalize hkx : (cellP s (k + 1)).2.1 = kx at *
            have HC3 : Hid (clF s wd i [] = clF s (wd - (a ++ [cx]).length) kx (a ++ [cx])) := by show _ = _; rw [HC2.out, HJ.out, hcx, hkx]
            clear HC2 hcx hkx
            go_wp2_with (at_builtin; go_must (refine wpList_append1 rfl _ _ _ rfl _ 2 24 elemCell _ a.length (a.flatMap clQ) rfl (by exact (hrow2.alloc _).alloc _) ⟨w2.heap.size + 1, 0, none⟩ 1 (clQ cx) rfl rfl (by exact cells_new (Blk.new' _ _ _ _ (by simp))) (by intro u hu; simp [clQ] at hu; rcases hu with rfl | rfl <;> rfl) (by unfold maxLen; omega) (by omega) ?_); intro g cap w3 hrow3 hgrow hgo)
            have hG3 : Fr (fun j => (Value.slice ca a.length cc).ownBlock = some j) _ w3 := Fr.grown (fun j => (Value.slice ca a.length cc).ownBlock = some j) hgrow (fun _ e => e)
            have hp3 : RdB w3 b s kx := Blk.fr (Blk.alloc (Blk.alloc hp2 _) _) hG3 (fun e => by have := hlo b e; omega)
            have hfr3 : Fr (· = b) w w3 := ((hfr2.allocr _).allocr _).thenr hG3 (fun j hj e => by have := hlo j e; omega)
            have hlo3 : w.heap.size ≤ g := by
              rcases hgo with e | e
              · exact hlo g e
              · have := hfr2.size; simp at e; omega
            go_roundg (s.size + 1 - kx)
            case measure => omega
            case rel =>
              refine ⟨kx, a ++ [cx], _, hp3, hfr3, ?_, ?_, rfl, HC3, by simp; omega, by omega, Nat.le_refl _, by simp; omega⟩
              · simpa using hrow3
              · intro j hj
                simp only [Value.ownBlock, Option.some.injEq] at hj
                omega
          · have hok' : (cellP s (k + 1)).1 = false := by simpa using hok
            have HE : Hid _ := hno hok'
            have HC2 : Hid (clF s wd i [] = (false, (cellP s (k + 1)).2.1, a)) := by show _ = _; rw [HC.out, clF_bad s wd k a (by omega) HA.out (by rw [HJ.out]; exact hok'), HJ.out]
            clear hyes hno hok hok' HC
            rw [HE.out]
            clear HE
            go_wp2_with fail
            go_ret2
            exact ⟨_, by rw [HC2.out]; rfl, by rw [HC2.out]; exact Blk.alloc hp2 _, hfr2.allocr _, by rw [HC2.out]; exact hrow2.alloc _, hlo⟩
        · have HC2 : Hid (clF s wd i [] = (false, k, a)) := HC.out.trans (clF_no s wd k a (by omega) ha h44)
          have H44 : Hid (byte s k ≠ 44) := h44
          clear ha h44 HC
          go_wp2_with fail
          refine (skip_no _ b s 44 _ rfl k hpk H44.out).mono ?_
          rintro e w1 ⟨rfl, hp1, hf1⟩
          have hrow1 := row_fr hrow hf1 (fun j hj e => by have := hlo j hj; omega)
          go_wp2_with fail
          go_ret2
          exact ⟨_, by rw [HC2.out]; rfl, by rw [HC2.out]; exact hp1, hfr.thenr hf1 (fun _ _ h => h), by rw [HC2.out]; exact hrow1, hlo⟩
    · have HC2 : Hid (clF s wd i [] = (true, k, a)) := by
        show _ = _
        rw [HC.out, show wd - a.length = 0 by omega]; rfl
      have d0 : decide (a.length < wd) = false := by simp; omega
      go_wp2_with fail
      go_ret2
      exact ⟨_, by rw [HC2.out]; rfl, by rw [HC2.out]; exact hpk, hfr, by rw [HC2.out]; exact hrow, hlo⟩
end Go.Proofs.Ytmolmbeeoecnfaa
