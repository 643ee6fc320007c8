/- Own work: Rd5. -/
import Derived.Test.YtmolmbeeoecnfaaGreatDoorF08
import Derived.BigRegion
import Derived.Test.YtmolmbeeoecnfaaGreatDoorF10
/- Own work: walks of the program's reader: readState, readChart. -/
namespace Go.Proofs.YtmolmbeeoecnfaaGreatDoor
open Go.RowKit Go.BigFrame
set_option linter.unusedVariables false
set_option linter.unusedSimpArgs false

theorem RdV.enter {w : World} {rb b : Nat} {s : ByteArray} {r : Rn} {ws : Ws} {g c own : Nat} {x : StP} (h : RdV w rb b s r ws) (hv : ws.v2 = .slice (some ⟨g, 0, none⟩) r.st.length c) (hx : r.st[own]? = some x) (a : ByteArray) :
  RdV (w.setCell ⟨g, own * 10 + 6, none⟩ (.string a)) rb b s { r with st := r.st.modify own fun x => { x with enter := a } } ws ∧ EvR rb b ws ws w (w.setCell ⟨g, own * 10 + 6, none⟩ (.string a)) := by
 have hl := (List.getElem?_eq_some_iff.1 hx).1
 exact h.poke2 hv (own * 10 + 6) _ _ (by simp) (flat_set StP.cells 10 StP.len _ 6 (by decide) _ r.st own (fun y _ => rfl) hl) (by omega)
theorem RdV.leave {w : World} {rb b : Nat} {s : ByteArray} {r : Rn} {ws : Ws} {g c own : Nat} {x : StP} (h : RdV w rb b s r ws) (hv : ws.v2 = .slice (some ⟨g, 0, none⟩) r.st.length c) (hx : r.st[own]? = some x) (a : ByteArray) :
  RdV (w.setCell ⟨g, own * 10 + 7, none⟩ (.string a)) rb b s { r with st := r.st.modify own fun x => { x with leave := a } } ws ∧ EvR rb b ws ws w (w.setCell ⟨g, own * 10 + 7, none⟩ (.string a)) := by
 have hl := (List.getElem?_eq_some_iff.1 hx).1
 exact h.poke2 hv (own * 10 + 7) _ _ (by simp) (flat_set StP.cells 10 StP.len _ 7 (by decide) _ r.st own (fun y _ => rfl) hl) (by omega)
theorem RdV.end' {w : World} {rb b : Nat} {s : ByteArray} {r : Rn} {ws : Ws} {g c own : Nat} {x : StP} (h : RdV w rb b s r ws) (hv : ws.v2 = .slice (some ⟨g, 0, none⟩) r.st.length c) (hx : r.st[own]? = some x) :
  RdV (w.setCell ⟨g, own * 10 + 5, none⟩ (.int .i64 r.st.length)) rb b s (setEP r own r.st.length) ws ∧ EvR rb b ws ws w (w.setCell ⟨g, own * 10 + 5, none⟩ (.int .i64 r.st.length)) := by
 have hl := (List.getElem?_eq_some_iff.1 hx).1
 exact h.poke2 hv (own * 10 + 5) _ _ (by simp) (flat_set StP.cells 10 StP.len _ 5 (by decide) _ r.st own (fun y _ => rfl) hl) (by omega)

theorem rs4_ok (s : ByteArray) (g : Rn → Bool × Rn) (own : Nat) (q3 : Rn) (hr3 : RdInv s q3) (hG : ∀ q, RdInv s q → q3.i + 1 ≤ q.i → (g q).1 = true → GoesR s q (g q).2) :
  (rs4 s g own q3).1 = true → RdInv s (rs4 s g own q3).2 ∧ q3.i ≤ (rs4 s g own q3).2.i ∧ q3.st.length ≤ (rs4 s g own q3).2.st.length := by
 unfold rs4
 intro hk4
 split
 ·rename_i hc
  rw [if_pos hc] at hk4
  have hh := riP_ok s _ 41 (by decide) 1 (setKP q3 own 1) ⟨hr3.1, by simp [setKP]; exact hr3.2.1, hr3.2.2⟩ (sg_in s 40 q3.i (by decide) hc) hG hk4
  exact ⟨hh.inv, Nat.le_of_lt hh.i, by simpa [setKP] using hh.st.length_le⟩
 ·rename_i hc
  rw [if_neg hc] at hk4
  split
  ·rename_i hc2
   rw [if_pos hc2] at hk4
   have hh := riP_ok s _ 93 (by decide) 2 (setKP q3 own 2) ⟨hr3.1, by simp [setKP]; exact hr3.2.1, hr3.2.2⟩ (sg_in s 91 q3.i (by decide) hc2) hG hk4
   exact ⟨hh.inv, Nat.le_of_lt hh.i, by simpa [setKP] using hh.st.length_le⟩
  ·exact ⟨hr3, Nat.le_refl _, Nat.le_refl _⟩

set_option maxRecDepth 100000 in
set_option maxHeartbeats 2000000 in
theorem readState_step (s : ByteArray) (hs : s.size ≤ 1000000) (f : Nat) (hS : RsC s f) : RsC s (f + 1) := by
 intro w rb b r ws outer depth dI hdI hp hv hd hf
 subst hdI
 have HS : Hid (RsC s f) := hS
 clear hS
 obtain ⟨hv1, hv2, hv3⟩ := hv
 go_enter Tryz.func40, Tryz.ntmps40
 go_wp2_with fail
 refine (next_any _ rb s _ hp.blk).mono ?_
 rintro e w1 ⟨rfl, n1, rfl⟩
 have hp1 := hp.drewN n1
 have he1 := (EvR.refl rb b ws w).drewN n1
 generalize w.drewN n1 = W1 at hp1 he1
 go_wp2_with fail
 refine (isName_any _ _).mono ?_
 rintro e w2 ⟨rfl, rfl⟩
 by_cases hN : isN (byte s r.i) = false
 ·have HR : Hid (rsF s (f + 1) r outer depth = (false, r)) := by show _ = _; rw [rsF, if_pos hN]
  rw [hN]
  clear hN
  go_wp2_with fail
  go_ret
  show RPost2 s rb b ws w (rsF s (f + 1) r outer depth) _ _
  rw [HR.out]
  exact ⟨rfl, fun h => (by cases h), fun _ => ⟨hp1.blk, he1.fr, hp1.bad⟩⟩
 ·have hN' : isN (byte s r.i) = true := by simpa using hN
  have hin := isN_b s r.i hN'
  have HN : Hid (¬ isN (byte s r.i) = false) := hN
  rw [hN']
  clear hN hN'
  obtain ⟨c0, c1, hfr1⟩ := hp1.blk.cells
  obtain ⟨c2, -, hfz⟩ := hp1.pb.cells
  have hz2 := hfz 0
  obtain ⟨va, vc, hv2'⟩ := row_len hp1.r2
  have hbl := Blk.lt hp1.pb
  have c2' := c2
  rw [hv2'] at c2
  clear hfz
  have hx0 : ∀ x : StP, (r.st ++ [x])[r.st.length]? = some x := fun x => by simp
  go_upto_region 5 with fail
  go_cut [10] (fun s8 wx => s8 = .int .i64 r.st.length ∧ ∃ ws2, RdV wx rb b s { r with st := r.st ++ [⟨byte s r.i, r.i, depth, 0, outer, 0, ⟨#[]⟩, ⟨#[]⟩, false, false⟩] } ws2 ∧ EvR rb b ws ws2 w wx)
  case first =>
   have hrow0 := hp1.r2
   rw [hv2'] at hrow0
   have HROW : Hid _ := hrow0
   have HV2 : Hid _ := hv2'
   clear c2' hrow0 hv2' hx0
   go_region_law (refine step_append1 rfl (.tmp 28) (.tmp 37) 36 rfl 115 10 88 elemPState (.slice va r.st.length vc) r.st.length (r.st.flatMap StP.cells) (by simp [Act.eval, Act.put]) (by exact World.ownsRow.alloc (row_fr HROW.out (Fr.drew (fun _ => False) w2) (fun _ _ h => h)) _) ⟨w2.heap.size, 0, none⟩ 1 (StP.cells ⟨byte s r.i, r.i, depth, 0, outer, 0, ⟨#[]⟩, ⟨#[]⟩, false, false⟩) (by simp [Act.eval, Act.put]) rfl (by exact cells_new (Blk.new' _ _ _ _ (by simp))) (by intro u hu; simp [StP.cells] at hu; rcases hu with rfl | rfl | rfl | rfl | rfl | rfl | rfl | rfl | rfl | rfl <;> rfl) (by unfold maxLen; omega) (by omega) ?_; intro g cap w9 hrow hgrow hgo; rw [← HV2.out] at hgrow hgo; have hb9 := ((hp1.drew).alloc _).after2 hgrow; have k2 := hb9.cells.1; have kz2 := hb9.cells.2.2 0)
   all_goals
    go_wp2_with fail
    go_meet
    obtain ⟨q1, q2⟩ := ((hp1.drew).alloc _).push2 ⟨byte s r.i, r.i, depth, 0, outer, 0, ⟨#[]⟩, ⟨#[]⟩, false, false⟩ hrow hgrow hgo
    exact ⟨rfl, _, q1, (he1.drew.alloc _).trans q2⟩
  case rest =>
   obtain ⟨rfl, ws2, hp2, he2⟩ := hcut
   clear c0 c1 c2 hz2 hv2' c2' hp1 he1 hbl
   have hx2 := hx0 ⟨byte s r.i, r.i, depth, 0, outer, 0, ⟨#[]⟩, ⟨#[]⟩, false, false⟩
   have HX : Hid _ := hx2
   clear hx0 hx2
   obtain ⟨c0, c1, hfz⟩ := hp2.blk.cells
   have hz1 := hfz 1
   clear hfz
   go_wp2_with fail
   have hp3 : RdV _ rb b s (rs1 s r outer depth) ws2 := hp2.step (r.i + 1) rfl
   have he3 := he2.setOwn 1 (.int .i64 ((r.i : Int) + 1))
   refine (readBehind_any _ rb s 43 43 rfl (r.i + 1) hp3.blk hs hin (by decide)).mono ?_
   rintro e w3 ⟨rfl, hb3, hf3⟩
   have hp4 := hp3.move hb3 hf3
   have he4 := he3.trans (EvR.of_fr hf3)
   have b1 := abI_bd s 43 (r.i + 1) (by decide) hin
   clear hp2 he2 hp3 he3 hb3 hf3 c0 c1 hz1
   by_cases hK : abK s 43 (r.i + 1) = false
   ·have HR : Hid (rsF s (f + 1) r outer depth = (false, { rs1 s r outer depth with i := abI s 43 (r.i + 1) })) := by show _ = _; rw [rsF, if_neg HN.out, if_pos hK]
    rw [hK]
    clear hK
    go_wp2_with fail
    go_ret
    show RPost2 s rb b ws w (rsF s (f + 1) r outer depth) _ _
    rw [HR.out]
    exact ⟨rfl, fun h => (by cases h), fun _ => ⟨hp4.blk, he4.fr, hp4.bad⟩⟩
   ·have hK' : abK s 43 (r.i + 1) = true := by simpa using hK
    have HK : Hid (¬ abK s 43 (r.i + 1) = false) := hK
    rw [hK']
    clear hK hK'
    go_wp2_with fail
    refine (readBehind_any _ rb s 45 45 rfl (abI s 43 (r.i + 1)) hp4.blk hs b1.2 (by decide)).mono ?_
    rintro e w4 ⟨rfl, hb4, hf4⟩
    have hp5 := hp4.move hb4 hf4
    have he5 := he4.trans (EvR.of_fr hf4)
    have b2 := abI_bd s 45 (abI s 43 (r.i + 1)) (by decide) b1.2
    clear hp4 he4 hb4 hf4
    by_cases hK : abK s 45 (abI s 43 (r.i + 1)) = false
    ·have HR : Hid (rsF s (f + 1) r outer depth = (false, { rs1 s r outer depth with i := abI s 45 (abI s 43 (r.i + 1)) })) := by show _ = _; rw [rsF, if_neg HN.out, if_neg HK.out, if_pos hK]
     rw [hK]
     clear hK
     go_wp2_with fail
     go_ret
     show RPost2 s rb b ws w (rsF s (f + 1) r outer depth) _ _
     rw [HR.out]
     exact ⟨rfl, fun h => (by cases h), fun _ => ⟨hp5.blk, he5.fr, hp5.bad⟩⟩
    ·have hK' : abK s 45 (abI s 43 (r.i + 1)) = true := by simpa using hK
     have HR : Hid (rsF s (f + 1) r outer depth = rs5 s r.st.length (rs4 s (fun q => rsF s f q (r.st.length : Nat) (depth + 1)) r.st.length (rs3 s r.st.length (rs1 s r outer depth)))) := by show _ = _; rw [rsF, if_neg HN.out, if_neg HK.out, if_neg hK]
     rw [hK']
     clear hK hK'
     have hlen5 : r.st.length < (rs1 s r outer depth).st.length := (List.getElem?_eq_some_iff.1 HX.out).1
     have hl5 : (rs1 s r outer depth).st.length = r.st.length + 1 := by simp [rs1]
     obtain ⟨gg, cc, hg2, hcc⟩ := row_form hp5.r2 (by show 0 < (rs1 s r outer depth).st.length; omega)
     have hg2' : ws2.v2 = .slice (some ⟨gg, 0, none⟩) (r.st.length + 1) cc := by rw [hg2]; show Value.slice _ (rs1 s r outer depth).st.length _ = _; rw [hl5]
     obtain ⟨k6, z6⟩ := hp5.st2 hg2 HX.out 6 _ (by omega) rfl
     obtain ⟨k7, z7⟩ := hp5.st2 hg2 HX.out 7 _ (by omega) rfl
     have hE := hp5.enter hg2 HX.out (abS s 43 (r.i + 1))
     have hxE := modify_get (fun x : StP => { x with enter := abS s 43 (r.i + 1) }) _ _ _ HX.out
     have hL := hE.1.leave (g := gg) (c := cc) (by rw [hg2]; show _ = Value.slice _ (List.length (List.modify _ _ _)) _; simp) hxE (abS s 45 (abI s 43 (r.i + 1)))
     have hxL := modify_get (fun x : StP => { x with leave := abS s 45 (abI s 43 (r.i + 1)) }) _ _ _ hxE
     have HE : Hid _ := hE
     have HL : Hid _ := hL
     have HXL : Hid _ := hxL
     obtain ⟨d2, -⟩ := hp5.pb.cells
     rw [hg2'] at d2
     clear hE hL hxE hxL hlen5 hl5 hcc hg2 hg2'
     go_wp2_with fail
     have hp6 : RdV _ rb b s (rs3 s r.st.length (rs1 s r outer depth)) ws2 := HL.out.1
     have he6 := (he5.trans HE.out.2).trans HL.out.2
     have hx6 : (rs3 s r.st.length (rs1 s r outer depth)).st[r.st.length]? = some _ := HXL.out
     have hI6 : RdInv s (rs3 s r.st.length (rs1 s r outer depth)) := by
      refine ⟨b2.2, ?_, ?_⟩
      ·show (((r.st ++ [_]).modify _ _).modify _ _).length ≤ abI s 45 (abI s 43 (r.i + 1))
       simp only [List.length_modify, List.length_append, List.length_cons, List.length_nil]
       omega
      ·show r.tr.length ≤ abI s 45 (abI s 43 (r.i + 1))
       omega
     have hi6 : r.i + 1 ≤ (rs3 s r.st.length (rs1 s r outer depth)).i := by show r.i + 1 ≤ abI s 45 (abI s 43 (r.i + 1)); omega
     generalize ((w4.setCell ⟨gg, r.st.length * 10 + 6, none⟩ (.string (abS s 43 (r.i + 1)))).setCell ⟨gg, r.st.length * 10 + 7, none⟩ (.string (abS s 45 (abI s 43 (r.i + 1))))) = W6 at hp6 he6 ⊢
     generalize rs3 s r.st.length (rs1 s r outer depth) = q3 at *
     refine (readBrackets_any s hs f HS.out _ rb b q3 ws2 r.st.length depth _ hp6 hI6 hx6 (by omega) (by omega)).mono ?_
     rintro e w7 ⟨rfl, hyes, hnot⟩
     have h4ok := rs4_ok s (fun q => rsF s f q (r.st.length : Nat) (depth + 1)) r.st.length q3 hI6 (fun q hq hqi hqk => rsF_goes s f q _ _ hq (by omega) hqk)
     have hl6 : r.st.length < q3.st.length := (List.getElem?_eq_some_iff.1 hx6).1
     clear HE HL HXL HX d2 k6 z6 k7 z7 hx6 hp6 he5
     generalize rs4 s (fun q => rsF s f q (r.st.length : Nat) (depth + 1)) r.st.length q3 = q4 at *
     by_cases hok : q4.1 = false
     ·have HR2 : Hid (rsF s (f + 1) r outer depth = q4) := by show _ = _; rw [HR.out, rs5, if_pos hok]
      have HOK : Hid (q4.1 = false) := hok
      have hn := hnot hok
      have HNn : Hid _ := hn
      rw [hok]
      clear hok hyes hnot hn h4ok
      go_wp2_with fail
      go_ret
      show RPost2 s rb b ws w (rsF s (f + 1) r outer depth) _ _
      rw [HR2.out]
      refine ⟨(by rw [HOK.out]; rfl), fun h => (by rw [HOK.out] at h; cases h), fun _ => ⟨HNn.out.1, he6.fr.thenr HNn.out.2.1 (fun i hi ho => he6.own i hi ho), HNn.out.2.2⟩⟩
     ·have hok' : q4.1 = true := by simpa using hok
      have HR2 : Hid (rsF s (f + 1) r outer depth = rtL s r.st.length (setEP q4.2 r.st.length q4.2.st.length)) := by show _ = _; rw [HR.out, rs5, if_neg hok]
      obtain ⟨ws7, hp7, he7⟩ := hyes hok'
      obtain ⟨hI7, hi7, hl7⟩ := h4ok hok'
      rw [hok']
      clear hok hok' hyes hnot h4ok
      have hs7 := hI7.2.1
      have hs7' := hI7.1
      obtain ⟨gh, ch, hgh, hch⟩ := row_form hp7.r2 (by omega)
      obtain ⟨x7, hx7⟩ : ∃ x7, q4.2.st[r.st.length]? = some x7 := ⟨_, List.getElem?_eq_getElem (by omega)⟩
      obtain ⟨k5, z5⟩ := hp7.st2 hgh hx7 5 _ (by omega) rfl
      obtain ⟨d2, -⟩ := hp7.pb.cells
      rw [hgh] at d2
      have HEnd : Hid _ := hp7.end' hgh hx7
      have hI8 : RdInv s (setEP q4.2 r.st.length q4.2.st.length) := ⟨hI7.1, by simp [setEP]; exact hI7.2.1, hI7.2.2⟩
      have hll : (r.st.length : Int) < q4.2.st.length := by omega
      clear hx7 hgh
      go_wp2_with fail
      go_region
      go_wp2_with fail
      refine (readTranss_any _ rb b s r.st.length _ ws7 HEnd.out.1.drew hs hI8).mono ?_
      rintro e w8 ⟨rfl, hyes, hnot⟩
      go_wp2_with fail
      go_ret
      show RPost2 s rb b ws w (rsF s (f + 1) r outer depth) _ _
      rw [HR2.out]
      have he8 := ((he6.trans he7).trans HEnd.out.2).drew
      refine ⟨rfl, fun h => ?_, fun h => ?_⟩
      ·obtain ⟨ws8, q1, q2⟩ := hyes h
       exact ⟨ws8, q1, he8.trans q2⟩
      ·obtain ⟨q1, q2, q3⟩ := hnot h
       exact ⟨q1, he8.fr.thenr q2 (fun i hi ho => he8.own i hi ho), q3⟩

theorem readState_any (s : ByteArray) (hs : s.size ≤ 1000000) : ∀ f, RsC s f
 | 0 => by intro w rb b r ws outer depth dI hdI hp hv hd hf; omega
 | f + 1 => readState_step s hs f (readState_any s hs f)

theorem beq_cast (a b : Nat) : ((a : Int) == (b : Int)) = (a == b) := by
 rw [Bool.eq_iff_iff, beq_iff_eq, beq_iff_eq]; omega

def R0 : Rn := ⟨0, [], []⟩
def rcR (s : ByteArray) : Bool × Rn := rsF s (s.size + 1) R0 (-1) 1
def rcK (s : ByteArray) : Bool := (rcR s).1 && ((rcR s).2.i == s.size)

def Ws0 : Ws := ⟨.slice none 0 0, .slice none 0 0, []⟩
theorem rd_start (w : World) (rb b : Nat) (s : ByteArray) (h : RdB w rb s 0) (hb : Blk w b #[.slice none 0 0, .slice none 0 0] 39) (hn : rb ≠ b) : RdV w rb b s R0 Ws0 where
 blk := h
 pb := hb
 r2 := World.ownsRow_nil _ _ _ _
 r3 := World.ownsRow_nil _ _ _ _
 rc := fun t ht => by cases ht
 ht := rfl
 n2 := by simp [Ws0, Value.ownBlock]
 n3 := by simp [Ws0, Value.ownBlock]
 d23 := fun k hk => by simp [Ws0, Value.ownBlock] at hk
 nc := fun t ht => by cases ht
 pw := List.Pairwise.nil
 nq := by
  rintro (h | h | h | ⟨t, ht, _⟩)
  ·exact hn h
  ·simp [Ws0, Value.ownBlock] at h
  ·simp [Ws0, Value.ownBlock] at h
  ·simp [Ws0] at ht

def RcPost (s : ByteArray) (rb : Nat) (w : World) (e : Ending) (w' : World) : Prop :=
 ∃ a2 n2 k2 a3 n3 k3, e = .returned (.tuple #[.agg #[.slice a2 n2 k2, .slice a3 n3 k3], .bool (rcK s)]) ∧ RdB w' rb s (rcR s).2.i ∧ Fr (· = rb) w w' ∧
  (rcK s = true → ∃ b th, RdV w' rb b s (rcR s).2 ⟨.slice a2 n2 k2, .slice a3 n3 k3, th⟩ ∧ ∀ k, OwnR b ⟨.slice a2 n2 k2, .slice a3 n3 k3, th⟩ k → w.heap.size ≤ k)

set_option maxRecDepth 100000 in
set_option maxHeartbeats 1000000 in
theorem readChart_any (w : World) (rb : Nat) (s : ByteArray) (hp : RdB w rb s 0) (hs : s.size ≤ 1000000) :
  Calls Tryz.prog 24 #[.pointer (some ⟨rb, 0, none⟩)] w (RcPost s rb w) := by
 have hrl := Blk.lt hp
 have hQ := Blk.alloc (Blk.new w #[.slice none 0 0, .slice none 0 0] 39) (.cells #[.slice none 0 0, .slice none 0 0] 39)
 have hB := Blk.new' (w.alloc (.cells #[.slice none 0 0, .slice none 0 0] 39)) #[.slice none 0 0, .slice none 0 0] 39 (w.heap.size + 1) (by simp)
 have hpa : RdB ((w.alloc (.cells #[.slice none 0 0, .slice none 0 0] 39)).alloc (.cells #[.slice none 0 0, .slice none 0 0] 39)) rb s 0 := Blk.alloc (Blk.alloc hp _) _
 have hfa : Fr (fun _ => False) w ((w.alloc (.cells #[.slice none 0 0, .slice none 0 0] 39)).alloc (.cells #[.slice none 0 0, .slice none 0 0] 39)) := ((Fr.refl _ _).allocr _).allocr _
 go_enter Tryz.func24, Tryz.ntmps24
 go_wp2_with fail
 generalize ((w.alloc (.cells #[.slice none 0 0, .slice none 0 0] 39)).alloc (.cells #[.slice none 0 0, .slice none 0 0] 39)) = W at hQ hB hpa hfa ⊢
 have hst := rd_start W rb (w.heap.size + 1) s hpa hB (by omega)
 have hown0 : ∀ k, OwnQ rb (w.heap.size + 1) Ws0 k → k = rb ∨ k = w.heap.size + 1 := by
  rintro k (h | h | h | h | ⟨t, ht, _⟩)
  ·exact Or.inl h
  ·exact Or.inr h
  ·simp [Ws0, Value.ownBlock] at h
  ·simp [Ws0, Value.ownBlock] at h
  ·simp [Ws0] at ht
 have hBl := Blk.lt hB
 refine (readState_any s hs (s.size + 1) W rb (w.heap.size + 1) R0 Ws0 (-1) 1 1 rfl hst ⟨Nat.zero_le _, Nat.le_refl _, Nat.le_refl _⟩ (by decide) (by show s.size - 0 < _; omega)).mono ?_
 rintro e w1 ⟨rfl, hyes, hnot⟩
 have HR : Hid (rcR s = rsF s (s.size + 1) R0 (-1) 1) := rfl
 by_cases hok : (rsF s (s.size + 1) R0 (-1) 1).1 = true
 ·obtain ⟨ws1, hp1, he1⟩ := hyes hok
  have hgo := rsF_goes s (s.size + 1) R0 (-1) 1 ⟨Nat.zero_le _, Nat.le_refl _, Nat.le_refl _⟩ (by show s.size - 0 < _; omega) hok
  have hz := hgo.inv.1
  have HOK : Hid ((rsF s (s.size + 1) R0 (-1) 1).1 = true) := hok
  rw [hok]
  have hQ1 := (he1.keeps hQ (fun h => by have := hown0 _ h; omega)).1
  have hfr1 : Fr (· = rb) w w1 := (hfa.mono (fun _ _ h => h.elim)).thenr he1.fr (fun i hi ho => by have := hown0 i ho; omega)
  have hlo : ∀ k, OwnR (w.heap.size + 1) ws1 k → w.heap.size + 1 ≤ k := by
   intro k hk
   by_cases hlt : k < W.heap.size
   ·have h2 := hown0 k (he1.own k hlt (Or.inr hk))
    have h3 : k ≠ rb := fun e => hp1.nq (e ▸ hk)
    omega
   ·omega
  clear hyes hnot hok hgo hpa hB hQ hst he1 hfa
  obtain ⟨a2, k2, e2⟩ := row_len hp1.r2
  obtain ⟨a3, k3, e3⟩ := row_len hp1.r3
  obtain ⟨c0, c1, -⟩ := hp1.blk.cells
  obtain ⟨d0, d1, -⟩ := hp1.pb.cells
  rw [e2] at d0
  rw [e3] at d1
  have q0 : w1.cell? ⟨w.heap.size, 0, none⟩ = some (.slice none 0 0) := by rw [Blk.cell hQ1]; rfl
  have q1 : w1.cell? ⟨w.heap.size, 1, none⟩ = some (.slice none 0 0) := by rw [Blk.cell hQ1]; rfl
  have y0 := Blk.frozen hQ1 0
  have y1 := Blk.frozen hQ1 1
  have hql := Blk.lt hQ1
  have HP1 : Hid (RdV w1 rb (w.heap.size + 1) s (rsF s (s.size + 1) R0 (-1) 1).2 ⟨.slice a2 (rsF s (s.size + 1) R0 (-1) 1).2.st.length k2, .slice a3 ws1.th.length k3, ws1.th⟩) := by
   have : ws1 = ⟨.slice a2 (rsF s (s.size + 1) R0 (-1) 1).2.st.length k2, .slice a3 ws1.th.length k3, ws1.th⟩ := by rw [← e2, ← e3]
   rw [← this]; exact hp1
  have HLO : Hid (∀ k, OwnR (w.heap.size + 1) ⟨.slice a2 (rsF s (s.size + 1) R0 (-1) 1).2.st.length k2, .slice a3 ws1.th.length k3, ws1.th⟩ k → w.heap.size + 1 ≤ k) := by
   have : ws1 = ⟨.slice a2 (rsF s (s.size + 1) R0 (-1) 1).2.st.length k2, .slice a3 ws1.th.length k3, ws1.th⟩ := by rw [← e2, ← e3]
   rw [← this]; exact hlo
  clear hp1 hlo e2 e3
  generalize ws1.th = th at *
  have hne : rb ≠ w.heap.size := by omega
  go_wp2_with fail
  go_region
  all_goals
   go_wp2_with fail
   have HK : rcK s = ((rcR s).2.i == s.size) := by rw [rcK, HR.out, HOK.out]; rfl
   refine bodyPost_ret (v := .tuple #[.agg #[.slice a2 (rsF s (s.size + 1) R0 (-1) 1).2.st.length k2, .slice a3 th.length k3], .bool (((rsF s (s.size + 1) R0 (-1) 1).2.i : Int) == s.size)]) (by simp [results, Tryz.results24, go_sem, hql, q0, q1]) rfl ⟨a2, (rsF s (s.size + 1) R0 (-1) 1).2.st.length, k2, a3, th.length, k3, ?_, ?_, ?_, ?_⟩
   ·rw [HK, beq_cast]; rfl
   ·exact Blk.drew (Blk.other (Blk.other HP1.out.blk _ _ hne) _ _ hne)
   ·exact ((hfr1.setCellr ⟨w.heap.size, 0, none⟩ _ (Or.inr (Nat.le_refl _))).setCellr ⟨w.heap.size, 1, none⟩ _ (Or.inr (Nat.le_refl _))).drewr
   ·intro _
    refine ⟨w.heap.size + 1, th, ?_, fun k hk => by have := HLO.out k hk; omega⟩
    have hoth : ∀ k, OwnQ rb (w.heap.size + 1) ⟨.slice a2 (rsF s (s.size + 1) R0 (-1) 1).2.st.length k2, .slice a3 th.length k3, th⟩ k → ¬ k = w.heap.size := by
     rintro k (h | h)
     ·omega
     ·have := HLO.out k h; omega
    exact ((HP1.out.setOther ⟨w.heap.size, 0, none⟩ _ (fun h => hoth _ h rfl)).setOther ⟨w.heap.size, 1, none⟩ _ (fun h => hoth _ h rfl)).drew
 ·have hok' : (rsF s (s.size + 1) R0 (-1) 1).1 = false := by simpa using hok
  obtain ⟨hb, hf, a2, n2, k2, a3, n3, k3, hpb⟩ := hnot hok'
  have HB : Hid _ := hb
  have HOK : Hid ((rsF s (s.size + 1) R0 (-1) 1).1 = false) := hok'
  have hQ1 := Blk.fr hQ hf (fun h => by have := hown0 _ h; omega)
  have hfr1 : Fr (· = rb) w w1 := (hfa.mono (fun _ _ h => h.elim)).thenr hf (fun i hi ho => by have := hown0 i ho; omega)
  rw [hok']
  clear hyes hnot hok hok' hb
  have d0 : w1.cell? ⟨w.heap.size + 1, 0, none⟩ = some (.slice a2 n2 k2) := by rw [Blk.cell hpb]; rfl
  have d1 : w1.cell? ⟨w.heap.size + 1, 1, none⟩ = some (.slice a3 n3 k3) := by rw [Blk.cell hpb]; rfl
  have q0 : w1.cell? ⟨w.heap.size, 0, none⟩ = some (.slice none 0 0) := by rw [Blk.cell hQ1]; rfl
  have q1 : w1.cell? ⟨w.heap.size, 1, none⟩ = some (.slice none 0 0) := by rw [Blk.cell hQ1]; rfl
  have y0 := Blk.frozen hQ1 0
  have y1 := Blk.frozen hQ1 1
  have hql := Blk.lt hQ1
  have hne : rb ≠ w.heap.size := by omega
  go_wp2_with fail
  have HK : rcK s = false := by rw [rcK, HR.out, HOK.out]; rfl
  refine bodyPost_ret (v := .tuple #[.agg #[.slice a2 n2 k2, .slice a3 n3 k3], .bool false]) (by simp [results, Tryz.results24, go_sem, hql, q0, q1]) rfl ⟨a2, n2, k2, a3, n3, k3, ?_, ?_, ?_, ?_⟩
  ·rw [HK]
  ·exact Blk.other (Blk.other HB.out _ _ hne) _ _ hne
  ·exact (hfr1.setCellr ⟨w.heap.size, 0, none⟩ _ (Or.inr (Nat.le_refl _))).setCellr ⟨w.heap.size, 1, none⟩ _ (Or.inr (Nat.le_refl _))
  ·intro h; rw [HK] at h; cases h
end Go.Proofs.YtmolmbeeoecnfaaGreatDoor
