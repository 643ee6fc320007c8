/- Own work: Rd4. -/
import Derived.Test.YtmolmbeeoecnfaaGreatDoorC11
/- Own work: walks of the program's reader: readTransitions, readInner. -/
namespace Go.Proofs.YtmolmbeeoecnfaaGreatDoor
open Go.RowKit Go.BigFrame
set_option linter.unusedVariables false
set_option linter.unusedSimpArgs false

def RPost2 (s : ByteArray) (rb b : Nat) (ws : Ws) (w : World) (q : Bool × Rn) (e : Ending) (w' : World) : Prop := RPost s rb b ws w q.1 q.2.i q.2 e w'

set_option maxRecDepth 100000 in
set_option maxHeartbeats 1000000 in
theorem readTranss_any (w : World) (rb b : Nat) (s : ByteArray) (own : Nat) (r : Rn) (ws : Ws) (hp : RdV w rb b s r ws) (hs : s.size ≤ 1000000) (hv : RdInv s r) :
    Calls Tryz.prog 65 #[.pointer (some ⟨rb, 0, none⟩), .pointer (some ⟨b, 0, none⟩), .int .i64 own] w (RPost2 s rb b ws w (rtL s own r)) := by
  go_enter Tryz.func65, Tryz.ntmps65
  go_wp2_with fail
  go_loopg [7] (s.size + 1 - r.i) (fun gk v7 wr => ∃ (q : Rn) (wq : Ws), RdV wr rb b s q wq ∧ EvR rb b ws wq w wr ∧ RdInv s q ∧ Hid (rtL s own r = rtL s own q) ∧ s.size + 1 - q.i ≤ gk)
  case atStart => exact ⟨r, ws, hp, EvR.refl _ _ _ _, hv, rfl, Nat.le_refl _⟩
  case round =>
    obtain ⟨q, wq, hpq, heq, hiq, HT, hgk⟩ := hrel
    go_wp2_with fail
    refine (next_any _ rb s _ hpq.blk).mono ?_
    rintro e w1 ⟨rfl, n1, rfl⟩
    have hp1 := hpq.drewN n1
    have he1 := heq.drewN n1
    generalize wr.drewN n1 = W1 at hp1 he1
    clear hpq heq
    by_cases h47 : byte s q.i = 47
    · have hin := sg_in s 47 q.i (by decide) h47
      have H47 : Hid (byte s q.i = 47) := h47
      rw [h47]
      clear h47
      go_wp2_with fail
      refine (readTrans_any _ rb b s own q wq hp1 hs hiq hin).mono ?_
      rintro e w2 ⟨rfl, hyes, hnot⟩
      by_cases hok : (rtP s own q.i).1 = true
      · obtain ⟨ws2, hp2, he2⟩ := hyes hok
        have hbd := rtP_bd s own q.i hin hok
        have HT2 : Hid _ := HT.out.trans (rtL_go s own q H47.out hok)
        have hi2 : RdInv s { q with i := (rtP s own q.i).2.1, tr := q.tr ++ [(rtP s own q.i).2.2] } := ⟨hbd.2, by have := hiq.2.1; simp only; omega, by have := hiq.2.2; simp only [List.length_append, List.length_cons, List.length_nil]; omega⟩
        have HBD : Hid _ := hbd
        rw [hok]
        clear hyes hnot hok hbd
        go_wp2_with fail
        go_roundg (s.size + 1 - (rtP s own q.i).2.1)
        case measure => have := HBD.out.1; omega
        case rel => exact ⟨_, ws2, hp2, he1.trans he2, hi2, HT2, Nat.le_refl _⟩
      · have hok' : (rtP s own q.i).1 = false := by simpa using hok
        obtain ⟨hb2, hf2, hq2⟩ := hnot hok'
        have HT2 : Hid _ := HT.out.trans (rtL_bad s own q H47.out hok')
        have HB2 : Hid _ := hb2
        rw [hok']
        clear hyes hnot hok hok' hb2
        go_wp2_with fail
        go_ret
        show RPost2 s rb b ws w (rtL s own r) _ _
        rw [HT2.out]
        exact ⟨rfl, fun h => (by cases h), fun _ => ⟨HB2.out, he1.fr.thenr hf2 (fun i hi ho => he1.own i hi ho), hq2⟩⟩
    · have hne : (((byte s q.i).toNat : Int) == 47) = false := by
        rw [beq_eq_false_iff_ne]; intro h; exact h47 (UInt8.toNat_inj.1 (by show _ = 47; omega))
      have HT2 : Hid _ := HT.out.trans (rtL_stop s own q h47)
      clear h47
      go_wp2_with fail
      go_ret
      show RPost2 s rb b ws w (rtL s own r) _ _
      rw [HT2.out]
      exact ⟨rfl, fun _ => ⟨wq, hp1, he1⟩, fun h => (by cases h)⟩

def RsC (s : ByteArray) (f : Nat) : Prop := ∀ (w : World) (rb b : Nat) (r : Rn) (ws : Ws) (outer : Int) (depth : Nat) (dI : Int), dI = depth → RdV w rb b s r ws → RdInv s r → depth ≤ r.i + 1 → s.size - r.i < f →
 Calls Tryz.prog 40 #[.pointer (some ⟨rb, 0, none⟩), .pointer (some ⟨b, 0, none⟩), .int .i64 outer, .int .i64 dI] w (RPost2 s rb b ws w (rsF s f r outer depth))

set_option maxRecDepth 100000 in
set_option maxHeartbeats 1000000 in
theorem readInner_any (s : ByteArray) (hs : s.size ≤ 1000000) (f : Nat) (hS : RsC s f) (w : World) (rb b : Nat) (r : Rn) (ws : Ws) (own depth least : Nat) (mI : Int) (hm : mI = least) (fin : UInt8) (lI : Int) (hl' : lI = fin.toNat) (h0 : fin ≠ 0)
  (hp : RdV w rb b s r ws) (hv : RdInv s r) (hn : r.i < s.size) (hd : depth ≤ r.i) (hl : least ≤ 2) (hf : s.size - (r.i + 1) < f) :
  Calls Tryz.prog 80 #[.pointer (some ⟨rb, 0, none⟩), .pointer (some ⟨b, 0, none⟩), .int .i64 own, .int .i64 depth, .int .i64 mI, .int .u8 lI] w (RPost2 s rb b ws w (riP s (fun q => rsF s f q (own : Nat) (depth + 1)) fin least r)) := by
 subst hm
 subst hl'
 obtain ⟨c0, c1, hfz⟩ := hp.blk.cells
 have hz1 := hfz 1
 clear hfz
 have HS : Hid (RsC s f) := hS
 clear hS
 have HG : Hid (∀ q, RdInv s q → r.i + 1 ≤ q.i → (rsF s f q (own : Nat) (depth + 1)).1 = true → GoesR s q (rsF s f q (own : Nat) (depth + 1)).2) := fun q hq hqi hqk => rsF_goes s f q _ _ hq (by omega) hqk
 have hp1 := hp.step (r.i + 1) rfl
 have he1 := (EvR.refl rb b ws w).setOwn 1 (.int .i64 ((r.i : Int) + 1))
 have hv1 : RdInv s { r with i := r.i + 1 } := ⟨hn, by have := hv.2.1; simp only; omega, by have := hv.2.2; simp only; omega⟩
 go_enter Tryz.func80, Tryz.ntmps80
 go_wp2_with fail
 generalize w.setCell ⟨rb, 1, none⟩ (.int .i64 ((r.i : Int) + 1)) = W0 at hp1 he1 ⊢
 clear c0 c1 hz1
 go_loopg [13] (s.size + 1 - (r.i + 1)) (fun gk vn wr => ∃ (q : Rn) (wq : Ws) (n : Nat), RdV wr rb b s q wq ∧ EvR rb b ws wq w wr ∧ RdInv s q ∧ r.i + 1 ≤ q.i ∧ vn = .int .i64 n ∧ n ≤ q.i ∧ Hid (riL s (fun q => rsF s f q (own : Nat) (depth + 1)) 0 { r with i := r.i + 1 } = riL s (fun q => rsF s f q (own : Nat) (depth + 1)) n q) ∧ s.size + 1 - q.i ≤ gk)
 case atStart => exact ⟨_, ws, 0, hp1, he1, hv1, Nat.le_refl _, rfl, Nat.zero_le _, rfl, Nat.le_refl _⟩
 case round =>
  clear hp1 he1 hv1
  obtain ⟨q, wq, n, hpq, heq, hiq, hqi, rfl, hnq, HT, hgk⟩ := hrel
  have hqs := hiq.1
  go_wp2_with fail
  refine (next_any _ rb s _ hpq.blk).mono ?_
  rintro e w1 ⟨rfl, n1, rfl⟩
  have hp1 := hpq.drewN n1
  have he1 := heq.drewN n1
  generalize wr.drewN n1 = W1 at hp1 he1
  clear hpq heq
  go_wp2_with fail
  refine (isName_any _ _).mono ?_
  rintro e w2 ⟨rfl, rfl⟩
  by_cases hN : isN (byte s q.i) = true
  ·have hin := isN_b s q.i hN
   have HN : Hid (isN (byte s q.i) = true) := hN
   rw [hN]
   clear hN
   go_wp2_with fail
   refine (HS.out _ rb b q wq own (depth + 1) ((depth : Int) + 1) (by omega) hp1 hiq (by omega) (by omega)).mono ?_
   rintro e w3 ⟨rfl, hyes, hnot⟩
   by_cases hok : (rsF s f q (own : Nat) (depth + 1)).1 = true
   ·obtain ⟨ws3, hp3, he3⟩ := hyes hok
    have hgo := HG.out q hiq hqi hok
    have HT2 : Hid _ := HT.out.trans (riL_go s (fun q => rsF s f q (own : Nat) (depth + 1)) (r.i + 1) n HG.out q hiq hqi HN.out hok)
    have HGO : Hid _ := hgo
    rw [hok]
    clear hyes hnot hok hgo
    go_wp2_with fail
    have hg2 := HGO.out.i
    have hg3 := HGO.out.inv.1
    go_roundg (s.size + 1 - (rsF s f q (own : Nat) (depth + 1)).2.i)
    case measure => omega
    case rel => exact ⟨_, ws3, n + 1, hp3, he1.trans he3, HGO.out.inv, by omega, by go_num, by omega, HT2, Nat.le_refl _⟩
   ·have hok' : (rsF s f q (own : Nat) (depth + 1)).1 = false := by simpa using hok
    obtain ⟨hb3, hf3, hq3⟩ := hnot hok'
    have HT2 : Hid _ := HT.out.trans (riL_bad s (fun q => rsF s f q (own : Nat) (depth + 1)) n q HN.out hok')
    have HB3 : Hid _ := hb3
    rw [hok']
    clear hyes hnot hok hok' hb3
    go_wp2_with fail
    go_ret
    show RPost2 s rb b ws w (riP s _ fin least r) _ _
    rw [riP, HT2.out, if_pos rfl]
    exact ⟨rfl, fun h => (by cases h), fun _ => ⟨HB3.out, he1.fr.thenr hf3 (fun i hi ho => he1.own i hi ho), hq3⟩⟩
  ·have hN' : isN (byte s q.i) = false := by simpa using hN
   have HT2 : Hid _ := HT.out.trans (riL_stop s (fun q => rsF s f q (own : Nat) (depth + 1)) n q hN')
   rw [hN']
   clear hN hN'
   by_cases hlt : (n : Int) < least
   ·go_wp2_with fail
    go_ret
    show RPost2 s rb b ws w (riP s _ fin least r) _ _
    rw [riP, HT2.out, if_neg (by simp), if_pos (Or.inl (by simp only; omega))]
    exact ⟨rfl, fun h => (by cases h), fun _ => ⟨hp1.blk, he1.fr, hp1.bad⟩⟩
   ·have hlt' : decide (n < least) = false := by simp; omega
    go_wp2_with fail
    by_cases hfin : byte s q.i = fin
    ·have HF : Hid (byte s q.i = fin) := hfin
     clear hfin
     refine (skip_yes _ rb s fin _ rfl q.i hp1.blk hs h0 HF.out).mono ?_
     rintro e w3 ⟨rfl, hb3, hf3⟩
     have hp3 := hp1.move hb3 hf3
     have he3 := he1.trans (EvR.of_fr hf3)
     clear hp1 he1 hb3 hf3
     go_wp2_with fail
     go_ret
     show RPost2 s rb b ws w (riP s _ fin least r) _ _
     rw [riP, HT2.out, if_neg (by simp), if_neg (by simp only; rw [HF.out]; simp; omega)]
     exact ⟨rfl, fun _ => ⟨wq, hp3, he3⟩, fun h => (by cases h)⟩
    ·have HF : Hid (byte s q.i ≠ fin) := hfin
     clear hfin
     refine (skip_no _ rb s fin _ rfl q.i hp1.blk HF.out).mono ?_
     rintro e w3 ⟨rfl, hb3, hf3⟩
     have hp3 := hp1.move hb3 hf3
     have he3 := he1.trans (EvR.of_fr hf3)
     clear hp1 he1 hb3 hf3
     go_wp2_with fail
     go_ret
     show RPost2 s rb b ws w (riP s _ fin least r) _ _
     rw [riP, HT2.out, if_neg (by simp), if_pos (Or.inr HF.out)]
     exact ⟨rfl, fun h => (by cases h), fun _ => ⟨hp3.blk, he3.fr, hp3.bad⟩⟩

theorem RdV.kind {w : World} {rb b : Nat} {s : ByteArray} {r : Rn} {ws : Ws} {g c own : Nat} {x : StP} (h : RdV w rb b s r ws) (hv : ws.v2 = .slice (some ⟨g, 0, none⟩) r.st.length c) (hx : r.st[own]? = some x) (k : Nat) (kI : Int) (hk : kI = k) :
  RdV (w.setCell ⟨g, own * 10 + 3, none⟩ (.int .i64 kI)) rb b s (setKP r own k) ws ∧ EvR rb b ws ws w (w.setCell ⟨g, own * 10 + 3, none⟩ (.int .i64 kI)) := by
 subst hk
 have hl := (List.getElem?_eq_some_iff.1 hx).1
 exact h.poke2 hv (own * 10 + 3) _ _ (by simp) (flat_set StP.cells 10 StP.len _ 3 (by decide) _ r.st own (fun y _ => rfl) hl) (by omega)

set_option maxRecDepth 100000 in
set_option maxHeartbeats 1000000 in
theorem readBrackets_any (s : ByteArray) (hs : s.size ≤ 1000000) (f : Nat) (hS : RsC s f) (w : World) (rb b : Nat) (r : Rn) (ws : Ws) (own depth : Nat) (x : StP)
    (hp : RdV w rb b s r ws) (hv : RdInv s r) (hx : r.st[own]? = some x) (hd : depth ≤ r.i) (hf : s.size - (r.i + 1) < f) :
    Calls Tryz.prog 64 #[.pointer (some ⟨rb, 0, none⟩), .pointer (some ⟨b, 0, none⟩), .int .i64 own, .int .i64 depth] w (RPost2 s rb b ws w (rs4 s (fun q => rsF s f q (own : Nat) (depth + 1)) own r)) := by
  have HS : Hid (RsC s f) := hS
  clear hS
  have hpl := (List.getElem?_eq_some_iff.1 hx).1
  have hv2 := hv.2.1
  have hv1 := hv.1
  go_enter Tryz.func64, Tryz.ntmps64
  go_wp2_with fail
  refine (next_any _ rb s _ hp.blk).mono ?_
  rintro e w1 ⟨rfl, n1, rfl⟩
  have hp1 := hp.drewN n1
  have he1 := (EvR.refl rb b ws w).drewN n1
  generalize w.drewN n1 = W1 at hp1 he1
  obtain ⟨gg, cc, hg2, hcc⟩ := row_form hp1.r2 (by omega)
  obtain ⟨k3, z3⟩ := hp1.st2 hg2 hx 3 _ (by omega) rfl
  obtain ⟨d2, -⟩ := hp1.pb.cells
  rw [hg2] at d2
  have hpl' : (own : Int) < r.st.length := by omega
  by_cases e40 : byte s r.i = 40
  · have hin := sg_in s 40 r.i (by decide) e40
    have hk := hp1.kind hg2 hx 1 1 rfl
    have HK : Hid _ := hk
    have H4 : Hid (rs4 s (fun q => rsF s f q (own : Nat) (depth + 1)) own r = riP s (fun q => rsF s f q (own : Nat) (depth + 1)) 41 1 (setKP r own 1)) := by show _ = _; rw [rs4, if_pos e40]
    rw [e40]
    clear hk hx e40
    go_wp2_with fail
    refine (readInner_any s hs f HS.out _ rb b (setKP r own 1) ws own depth 1 1 rfl 41 41 rfl (by decide) HK.out.1 ⟨hv.1, by simp [setKP]; exact hv.2.1, hv.2.2⟩ hin hd (by omega) hf).mono ?_
    rintro e w2 ⟨rfl, hyes, hnot⟩
    go_wp2_with fail
    go_ret
    show RPost2 s rb b ws w (rs4 s _ own r) _ _
    rw [H4.out]
    refine ⟨rfl, fun h => ?_, fun h => ?_⟩
    · obtain ⟨ws2, q1, q2⟩ := hyes h
      exact ⟨ws2, q1, (he1.trans HK.out.2).trans q2⟩
    · obtain ⟨q1, q2, q3⟩ := hnot h
      exact ⟨q1, (he1.trans HK.out.2).fr.thenr q2 (fun i hi ho => (he1.trans HK.out.2).own i hi ho), q3⟩
  · have b40 : (((byte s r.i).toNat : Int) == 40) = false := by
      rw [beq_eq_false_iff_ne]; intro h; exact e40 (UInt8.toNat_inj.1 (by show _ = 40; omega))
    by_cases e91 : byte s r.i = 91
    · have hin := sg_in s 91 r.i (by decide) e91
      have hk := hp1.kind hg2 hx 2 2 rfl
      have HK : Hid _ := hk
      have H4 : Hid (rs4 s (fun q => rsF s f q (own : Nat) (depth + 1)) own r = riP s (fun q => rsF s f q (own : Nat) (depth + 1)) 93 2 (setKP r own 2)) := by show _ = _; rw [rs4, if_neg e40, if_pos e91]
      rw [e91]
      clear hk hx e91 e40 b40
      go_wp2_with fail
      refine (readInner_any s hs f HS.out _ rb b (setKP r own 2) ws own depth 2 2 rfl 93 93 rfl (by decide) HK.out.1 ⟨hv.1, by simp [setKP]; exact hv.2.1, hv.2.2⟩ hin hd (by omega) hf).mono ?_
      rintro e w2 ⟨rfl, hyes, hnot⟩
      go_wp2_with fail
      go_ret
      show RPost2 s rb b ws w (rs4 s _ own r) _ _
      rw [H4.out]
      refine ⟨rfl, fun h => ?_, fun h => ?_⟩
      · obtain ⟨ws2, q1, q2⟩ := hyes h
        exact ⟨ws2, q1, (he1.trans HK.out.2).trans q2⟩
      · obtain ⟨q1, q2, q3⟩ := hnot h
        exact ⟨q1, (he1.trans HK.out.2).fr.thenr q2 (fun i hi ho => (he1.trans HK.out.2).own i hi ho), q3⟩
    · have b91 : (((byte s r.i).toNat : Int) == 91) = false := by
        rw [beq_eq_false_iff_ne]; intro h; exact e91 (UInt8.toNat_inj.1 (by show _ = 91; omega))
      have H4 : Hid (rs4 s (fun q => rsF s f q (own : Nat) (depth + 1)) own r = (true, r)) := by show _ = _; rw [rs4, if_neg e40, if_neg e91]
      clear e40 e91
      go_wp2_with fail
      go_ret
      show RPost2 s rb b ws w (rs4 s _ own r) _ _
      rw [H4.out]
      exact ⟨rfl, fun _ => ⟨ws, hp1, he1⟩, fun h => (by cases h)⟩
end Go.Proofs.YtmolmbeeoecnfaaGreatDoor
