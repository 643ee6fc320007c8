/- Own work: walks of the program's reader: readTransition. -/
import Derived.Test.YtmolmbeeoecnfaaRd2
import Derived.BigRegion
import Derived.Deep.LoopGhost
import Derived.Deep.RegionHeldLaw
import Derived.Deep.DeepCutAuto
namespace Go.Proofs.Ytmolmbeeoecnfaa
open Go.RowKit Go.BigFrame
set_option linter.unusedVariables false
set_option linter.unusedSimpArgs false

/-- What a transition of state 'own' at i is: right?, where, which. -/
def rtP (s : ByteArray) (own i : Nat) : Bool × Nat × TrQ :=
  let z : TrQ := ⟨0, 0, [], 0, 0, 0, 0, 0, ⟨#[]⟩⟩
  if isE (byte s (i + 1)) = false then (false, i + 1, z)
  else if (rcP s (i + 2) []).1 = false then (false, (rcP s (i + 2) []).2.1, z)
  else if byte s (rcP s (i + 2) []).2.1 ≠ 62 then (false, (rcP s (i + 2) []).2.1, z)
  else if isN (byte s ((rcP s (i + 2) []).2.1 + 1)) = false then (false, (rcP s (i + 2) []).2.1 + 1, z)
  else (true, dend s (rmI s ((rcP s (i + 2) []).2.1 + 2)),
    ⟨own, byte s (i + 1), (rcP s (i + 2) []).2.2, byte s ((rcP s (i + 2) []).2.1 + 1), (rcP s (i + 2) []).2.1 + 1, -1, rmC s ((rcP s (i + 2) []).2.1 + 2), (rcP s (i + 2) []).2.1 + 2, cut s (rmI s ((rcP s (i + 2) []).2.1 + 2)) (dend s (rmI s ((rcP s (i + 2) []).2.1 + 2)))⟩)

theorem rcF_bd (s : ByteArray) : ∀ (f i : Nat) (a : List CdP), i ≤ s.size → i ≤ (rcF s f i a).2.1 ∧ (rcF s f i a).2.1 ≤ s.size
  | 0, i, a, h => ⟨Nat.le_refl _, h⟩
  | f + 1, i, a, h => by
    simp only [rcF]
    split
    · have h1 := isC_b s i ‹_›
      split
      · have h2 := isN_b s (i + 1) ‹_›
        have := rcF_bd s f (i + 2) (a ++ [⟨byte s (i + 1), i + 1, -1, byte s i == 38⟩]) (by omega)
        omega
      · simp only; omega
    · exact ⟨Nat.le_refl _, h⟩
theorem rcP_bd (s : ByteArray) (i : Nat) (a : List CdP) (h : i ≤ s.size) : i ≤ (rcP s i a).2.1 ∧ (rcP s i a).2.1 ≤ s.size := rcF_bd s _ i a h
theorem isMk_b (s : ByteArray) (i : Nat) (h : isMk (byte s i) = true) : i < s.size := by
  by_cases e : i < s.size
  · exact e
  · rw [byte_out s i e] at h; simp [isMk] at h
theorem rmI_bd (s : ByteArray) (i : Nat) (h : i ≤ s.size) : i ≤ rmI s i ∧ rmI s i ≤ s.size := by
  unfold rmI; split
  · have := isMk_b s i ‹_›; omega
  · omega

def RdInv (s : ByteArray) (r : Rn) : Prop := r.i ≤ s.size ∧ r.st.length ≤ r.i ∧ r.tr.length ≤ r.i

/-- What is left behind by a call that reads and may refuse. -/
def RPost (s : ByteArray) (q b : Nat) (ws : Ws) (w : World) (ok : Bool) (i' : Nat) (r' : Rn) (e : Ending) (w' : World) : Prop :=
  e = .returned (.bool ok) ∧ (ok = true → ∃ ws', RdV w' q b s r' ws' ∧ EvR q b ws ws' w w') ∧ (ok = false → RdB w' q s i' ∧ Fr (OwnQ q b ws) w w' ∧ PlAny w' b)

set_option maxRecDepth 100000 in
set_option maxHeartbeats 2000000 in
theorem readTrans_any (w : World) (q b : Nat) (s : ByteArray) (own : Nat) (r : Rn) (ws : Ws) (hp : RdV w q b s r ws) (hs : s.size ≤ 1000000) (hv : RdInv s r) (hn : r.i < s.size) :
    Calls Try.prog 113 #[.pointer (some ⟨q, 0, none⟩), .pointer (some ⟨b, 0, none⟩), .int .i64 own] w
      (RPost s q b ws w (rtP s own r.i).1 (rtP s own r.i).2.1 { r with i := (rtP s own r.i).2.1, tr := r.tr ++ [(rtP s own r.i).2.2] }) := by
  obtain ⟨c0, c1, hfz⟩ := hp.blk.cells
  have hz1 := hfz 1
  have hbl := Blk.lt hp.blk
  obtain ⟨hv1, hv2, hv3⟩ := hv
  clear hfz
  have hp1 := hp.step (r.i + 1) rfl
  have he1 := (EvR.refl q b ws w).setOwn 1 (.int .i64 ((r.i : Int) + 1))
  go_enter Try.func113, Try.ntmps113
  go_wp2_with fail
  refine (next_any _ q s _ hp1.blk).mono ?_
  rintro e w1 ⟨rfl, n1, rfl⟩
  go_wp2_with fail
  refine (isEvent_any _ _).mono ?_
  rintro e w1 ⟨rfl, rfl⟩
  have hp2 := hp1.drewN n1
  have he2 := he1.drewN n1
  generalize (w.setCell ⟨q, 1, none⟩ (.int .i64 ((r.i : Int) + 1))).drewN n1 = W1 at hp2 he2
  clear hp1 he1 c0 c1 hz1
  by_cases hE : isE (byte s (r.i + 1)) = false
  · have HR : Hid (rtP s own r.i = (false, r.i + 1, ⟨0, 0, [], 0, 0, 0, 0, 0, ⟨#[]⟩⟩)) := by show _ = _; rw [rtP, if_pos hE]
    rw [hE]
    go_wp2_with fail
    go_ret
    rw [HR.out]
    exact ⟨rfl, fun h => (by cases h), fun _ => ⟨hp2.blk, he2.fr, hp2.bad⟩⟩
  · have hE' : isE (byte s (r.i + 1)) = true := by simpa using hE
    have hi2 := isE_b s (r.i + 1) hE'
    rw [hE']
    have HE : Hid (¬ isE (byte s (r.i + 1)) = false) := hE
    clear hE hE'
    obtain ⟨c0, c1, hfz⟩ := hp2.blk.cells
    have hz1 := hfz 1
    clear hfz
    go_wp2_with fail
    have hp3 : RdV (W1.setCell ⟨q, 1, none⟩ (.int .i64 ((r.i : Int) + 1 + 1))) q b s { r with i := r.i + 2 } ws := hp2.step (r.i + 1 + 1) rfl
    have he3 := he2.setOwn 1 (.int .i64 ((r.i : Int) + 1 + 1))
    clear hp2 he2 c0 c1 hz1
    refine (readConds_any _ q s (r.i + 2) hp3.blk hs hi2).mono ?_
    rintro e w2 ⟨cv, rfl, hb2, hf2, hrow2, hlo2, hcl2⟩
    have hrb := rcP_bd s (r.i + 2) [] hi2
    have hp4 := hp3.move hb2 hf2
    have he4 := he3.trans (EvR.of_fr hf2)
    have hW0 := he3.fr.size
    have hlo3 : ∀ k, cv.ownBlock = some k → w.heap.size ≤ k := fun k hk => by have := hlo2 k hk; omega
    have hno3 : ∀ k, cv.ownBlock = some k → ¬ OwnQ q b ws k := fun k hk ho => by have := hlo3 k hk; have := hp.own_lt ho; omega
    clear hp3 he3 hb2 hf2 hlo2 hW0
    by_cases hC : (rcP s (r.i + 2) []).1 = false
    · have HR : Hid (rtP s own r.i = (false, (rcP s (r.i + 2) []).2.1, ⟨0, 0, [], 0, 0, 0, 0, 0, ⟨#[]⟩⟩)) := by show _ = _; rw [rtP, if_neg HE.out, if_pos hC]
      rw [hC]
      go_wp2_with fail
      go_ret
      rw [HR.out]
      exact ⟨rfl, fun h => (by cases h), fun _ => ⟨hp4.blk, he4.fr, hp4.bad⟩⟩
    · have hC' : (rcP s (r.i + 2) []).1 = true := by simpa using hC
      rw [hC']
      have HC : Hid (¬ (rcP s (r.i + 2) []).1 = false) := hC
      clear hC hC'
      generalize hJ : (rcP s (r.i + 2) []).2.1 = j at hp4 he4 hrb
      have HJ : Hid ((rcP s (r.i + 2) []).2.1 = j) := hJ
      clear hJ
      generalize hL : (rcP s (r.i + 2) []).2.2 = cl at hrow2 hcl2
      have HL : Hid ((rcP s (r.i + 2) []).2.2 = cl) := hL
      clear hL
      obtain ⟨ca, cc, hcv⟩ := row_len hrow2
      subst hcv
      go_wp2_with fail
      by_cases h62 : byte s j = 62
      · have hj := sg_in s 62 j (by decide) h62
        have H62 : Hid (byte s j = 62) := h62
        clear h62
        refine (skip_yes _ q s 62 _ rfl j hp4.blk hs (by decide) H62.out).mono ?_
        rintro e W3 ⟨rfl, hb5, hf5⟩
        have hp6 := hp4.move hb5 hf5
        have he6 := he4.trans (EvR.of_fr hf5)
        have hrow4 := row_fr hrow2 hf5 (fun k hk e => hno3 k hk (Or.inl e))
        clear hp4 he4 hrow2 hb5 hf5
        go_wp2_with fail
        refine (readRef_any _ q s (j + 1) hp6.blk hs hj).mono ?_
        rintro e w4 ⟨hyes, hnot, hf4⟩
        have he7 := he6.trans (EvR.of_fr hf4)
        have hrow5 := row_fr hrow4 hf4 (fun k hk e => hno3 k hk (Or.inl e))
        clear hrow4 he6
        by_cases hN : isN (byte s (j + 1)) = false
        · have HR : Hid (rtP s own r.i = (false, j + 1, ⟨0, 0, [], 0, 0, 0, 0, 0, ⟨#[]⟩⟩)) := by show _ = _; rw [rtP, if_neg HE.out, if_neg HC.out, HJ.out, if_neg (fun h => h H62.out), if_pos hN]
          obtain ⟨rfl, hb4⟩ := hnot hN
          clear hyes hnot
          go_wp2_with fail
          go_ret
          rw [HR.out]
          exact ⟨rfl, fun h => (by cases h), fun _ => ⟨Blk.alloc hb4 _, he7.fr.allocr _, ((hp6.move hb4 hf4).alloc _).bad⟩⟩
        · have hN' : isN (byte s (j + 1)) = true := by simpa using hN
          have hj1 := isN_b s (j + 1) hN'
          have HR : Hid (rtP s own r.i = (true, dend s (rmI s (j + 2)), ⟨own, byte s (r.i + 1), cl, byte s (j + 1), j + 1, -1, rmC s (j + 2), j + 2, cut s (rmI s (j + 2)) (dend s (rmI s (j + 2)))⟩)) := by
            show _ = _; rw [rtP, if_neg HE.out, if_neg HC.out, HJ.out, if_neg (fun h => h H62.out), if_neg hN, HL.out]
          obtain ⟨rfl, hb4⟩ := hyes hN'
          clear hyes hnot hN hN' H62 HC HE
          have hp7 : RdV w4 q b s { r with i := j + 2 } ws := hp6.move hb4 hf4
          clear hp6 hb4 hf4
          obtain ⟨c0, c1, hfz⟩ := hp7.blk.cells
          have hbl4 := Blk.lt hp7.blk
          clear hfz
          go_wp2_with fail
          have hp8 := hp7.alloc (Obj.cells #[Value.int IntKind.u8 (byte s (j + 1)).toNat, Value.int IntKind.i64 ((j : Int) + 1), Value.int IntKind.i64 (-1)] 121)
          have he8 := he7.alloc (Obj.cells #[Value.int IntKind.u8 (byte s (j + 1)).toNat, Value.int IntKind.i64 ((j : Int) + 1), Value.int IntKind.i64 (-1)] 121)
          have hrow8 := hrow5.alloc (Obj.cells #[Value.int IntKind.u8 (byte s (j + 1)).toNat, Value.int IntKind.i64 ((j : Int) + 1), Value.int IntKind.i64 (-1)] 121)
          have htb := Blk.new w4 #[Value.int IntKind.u8 (byte s (j + 1)).toNat, Value.int IntKind.i64 ((j : Int) + 1), Value.int IntKind.i64 (-1)] 121
          have htno : ¬ OwnQ q b ws w4.heap.size := fun h => Nat.lt_irrefl _ (hp7.own_lt h)
          generalize hW8 : w4.alloc (Obj.cells #[Value.int IntKind.u8 (byte s (j + 1)).toNat, Value.int IntKind.i64 ((j : Int) + 1), Value.int IntKind.i64 (-1)] 121) = W8 at hp8 he8 hrow8 htb ⊢
          clear hW8
          generalize w4.heap.size = tq at htb htno
          clear hp7 he7 hrow5 c0 c1 hbl4
          refine (readMark_any _ q s (j + 2) hp8.blk hs hj1).mono ?_
          rintro e w5 ⟨rfl, hb5, hf5⟩
          have hm := rmI_bd s (j + 2) hj1
          have hp9 := hp8.move hb5 hf5
          have he9 := he8.trans (EvR.of_fr hf5)
          have hrow9 := row_fr hrow8 hf5 (fun k hk e => hno3 k hk (Or.inl e))
          have htb9 := Blk.fr htb hf5 (fun e => htno (Or.inl e))
          clear hp8 he8 hrow8 htb hb5 hf5
          go_wp2_with fail
          refine (readActions_any _ q s (rmI s (j + 2)) hp9.blk hs hm.2).mono ?_
          rintro e w6 ⟨rfl, hb6, hf6⟩
          have hpa := hp9.move hb6 hf6
          have hea := he9.trans (EvR.of_fr hf6)
          have hrowa := row_fr hrow9 hf6 (fun k hk e => hno3 k hk (Or.inl e))
          have htba := Blk.fr htb9 hf6 (fun e => htno (Or.inl e))
          clear hp9 he9 hrow9 htb9 hb6 hf6
          obtain ⟨-, c3, hfz⟩ := hpa.pb.cells
          have hz3 := hfz 1
          have t0 : w6.cell? ⟨tq, 0, none⟩ = some (.int .u8 (byte s (j + 1)).toNat) := by rw [Blk.cell htba]; rfl
          have t1 : w6.cell? ⟨tq, 1, none⟩ = some (.int .i64 ((j : Int) + 1)) := by rw [Blk.cell htba]; rfl
          have t2 : w6.cell? ⟨tq, 2, none⟩ = some (.int .i64 (-1)) := by rw [Blk.cell htba]; rfl
          have hbl6 := Blk.lt hpa.pb
          have htl6 := Blk.lt htba
          have hthl : ws.th.length ≤ 1000000 := by have h := congrArg List.length hpa.ht; simp only [List.length_map] at h; omega
          clear hfz
          go_wp2_with fail
          go_region_law (refine step_append1 rfl (.tmp 62) (.tmp 71) 67 rfl 123 9 96 elemPTrans ws.v3 ws.th.length (ws.th.flatMap TrH.cells) (by simp [Act.eval, Act.put]) (by exact ((hpa.drew).alloc _).r3) ⟨w6.heap.size, 0, none⟩ 1 (TrH.cells ⟨⟨own, byte s (r.i + 1), cl, byte s (j + 1), j + 1, -1, rmC s (j + 2), j + 2, cut s (rmI s (j + 2)) (dend s (rmI s (j + 2)))⟩, .slice ca cl.length cc⟩) (by simp [Act.eval, Act.put]) rfl (by exact cells_new (Blk.new' _ _ _ _ (by simp))) (by intro u hu; simp [TrH.cells] at hu; rcases hu with rfl | rfl | rfl | rfl | rfl | rfl | rfl | rfl | rfl <;> rfl) (by unfold maxLen; omega) (by omega) ?_; intro g cap w9 hrow hgrow hgo; have hb9 := ((hpa.drew).alloc _).after3 hgrow; have k3 := hb9.cells.2.1; have kz3 := hb9.cells.2.2 1)
          all_goals
            go_wp2_with fail
            go_ret
            obtain ⟨q1, q2⟩ := ((hpa.drew).alloc _).push3 ⟨⟨own, byte s (r.i + 1), cl, byte s (j + 1), j + 1, -1, rmC s (j + 2), j + 2, cut s (rmI s (j + 2)) (dend s (rmI s (j + 2)))⟩, .slice ca cl.length cc⟩ (by exact hrowa.alloc _) hno3 hrow hgrow hgo
            rw [HR.out]
            exact ⟨rfl, fun _ => ⟨_, q1, q2 w (hea.drew.alloc _) hlo3⟩, fun h => (by cases h)⟩
      · have HR : Hid (rtP s own r.i = (false, j, ⟨0, 0, [], 0, 0, 0, 0, 0, ⟨#[]⟩⟩)) := by show _ = _; rw [rtP, if_neg HE.out, if_neg HC.out, HJ.out, if_pos h62]
        have H62 : Hid (byte s j ≠ 62) := h62
        clear h62
        refine (skip_no _ q s 62 _ rfl j hp4.blk H62.out).mono ?_
        rintro e W3 ⟨rfl, hb5, hf5⟩
        have hp5 := hp4.move hb5 hf5
        have he5 := he4.trans (EvR.of_fr hf5)
        go_wp2_with fail
        go_ret
        rw [HR.out]
        exact ⟨rfl, fun h => (by cases h), fun _ => ⟨hp5.blk, he5.fr, hp5.bad⟩⟩
end Go.Proofs.Ytmolmbeeoecnfaa
