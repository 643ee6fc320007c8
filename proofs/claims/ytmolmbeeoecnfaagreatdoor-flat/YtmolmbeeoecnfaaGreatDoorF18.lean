/- Own work: PyJ. -/
import Derived.Test.YtmolmbeeoecnfaaGreatDoorF17
/- Own work: walks of the player: take. -/
namespace Go.Proofs.YtmolmbeeoecnfaaGreatDoor
open Go.RowKit Go.BigFrame
set_option linter.unusedVariables false
set_option linter.unusedSimpArgs false

set_option maxRecDepth 100000 in
set_option maxHeartbeats 1000000 in
theorem ytake_any (w : World) (b : Nat) (st : List StP) (ws : Wp) (p : Py) (vo : Value) (t : TrH) (hwf : Wf st) (hsz : SzOk st) (hrm : ∀ (k : Nat) (x : StP), st[k]? = some x → x.rem = true → x.kind ≠ 0) (hp : PyV w b st ws p vo) (ht : TrOk st t.q) (hta : t.q.acts.size ≤ 160) (hb : p.out.length + 5368714000 ≤ 70000000000000) :
  Calls Tryz.prog 70 #[.pointer (some ⟨b, 0, none⟩), .agg t.cells.toArray] w fun e w' => e = .returned (.tuple #[]) ∧ (tkF st t.q p).out.length ≤ p.out.length + 5368714000 ∧ ∃ vo', PyV w' b st ws (tkF st t.q p) vo' ∧ EvY b vo vo' w w' := by
 have hbd := scOf_bd st hwf t.q ht
 have HFI : Hid (fiOf st t.q < st.length) := fiOf_in st hwf t.q ht
 have hs0 : 0 < st.length := by have := ht.1; omega
 have hlen := hwf.len
 have HW : Hid (Wf st) := hwf
 have HSZ : Hid (SzOk st) := hsz
 have HRM : Hid (∀ (k : Nat) (x : StP), st[k]? = some x → x.rem = true → x.kind ≠ 0) := hrm
 have HT : Hid (TrOk st t.q) := ht
 have hbl := Blk.lt hp.blk
 have HSC : Hid (∀ W, PlR W st ws → Calls Tryz.prog 93 #[.agg #[ws.v2, ws.v3], .agg #[.int .i64 t.q.own, .int .u8 t.q.event.toNat, t.cv, .int .u8 t.q.tn.toNat, .int .i64 t.q.tp, .int .i64 t.q.ts, .int .u8 t.q.mark.toNat, .int .i64 t.q.mp, .string t.q.acts]] W fun e w' => e = .returned (.int .i64 (scOf st t.q)) ∧ Fr (fun _ => False) W w') := fun W h => scope_any W st ws t hwf h ht
 have HLB : Hid (∀ W, PyV W b st ws p vo → Calls Tryz.prog 88 #[.pointer (some ⟨b, 0, none⟩), .agg #[.int .i64 t.q.own, .int .u8 t.q.event.toNat, t.cv, .int .u8 t.q.tn.toNat, .int .i64 t.q.tp, .int .i64 t.q.ts, .int .u8 t.q.mark.toNat, .int .i64 t.q.mp, .string t.q.acts]] W fun e w' => e = .returned (setV (lefB st p.act t.q)) ∧ Fr (fun _ => False) W w') := fun W h => leftBy_any W b st ws p vo t hwf h ht
 have HNY : Hid (∀ k, w.heap.size ≤ k → ¬ OwnY b vo k) := by
  rintro k hk (h | h)
  ·omega
  ·have := (hp.roB _ h).2; omega
 have hml : (lefB st p.act t.q).length = 26 := lefB_len _ _ _ hp.ok.la
 have HB : Hid (p.out.length + 5368714000 ≤ 70000000000000) := hb
 have HTK : Hid (tkF st t.q p = enF st 26 (fiOf st t.q) ⟨t.q.ts, t.q.mark, -1⟩ { lvF st (lefB st p.act t.q) st.length (rmF st (lefB st p.act t.q) st.length p) with out := (lvF st (lefB st p.act t.q) st.length (rmF st (lefB st p.act t.q) st.length p)).out ++ bls t.q.acts }) := rfl
 generalize lefB st p.act t.q = m at *
 show Calls Tryz.prog 70 #[.pointer (some ⟨b, 0, none⟩), .agg #[.int .i64 t.q.own, .int .u8 t.q.event.toNat, t.cv, .int .u8 t.q.tn.toNat, .int .i64 t.q.tp, .int .i64 t.q.ts, .int .u8 t.q.mark.toNat, .int .i64 t.q.mp, .string t.q.acts]] w _
 have hfw : Fr (fun _ => False) w (w.alloc (.cells #[.int .i64 t.q.own, .int .u8 t.q.event.toNat, t.cv, .int .u8 t.q.tn.toNat, .int .i64 t.q.tp, .int .i64 t.q.ts, .int .u8 t.q.mark.toNat, .int .i64 t.q.mp, .string t.q.acts] 121)) := Fr.alloc _ _ _
 have HT0 : Hid (Blk (w.alloc (.cells #[.int .i64 t.q.own, .int .u8 t.q.event.toNat, t.cv, .int .u8 t.q.tn.toNat, .int .i64 t.q.tp, .int .i64 t.q.ts, .int .u8 t.q.mark.toNat, .int .i64 t.q.mp, .string t.q.acts] 121)) w.heap.size #[.int .i64 t.q.own, .int .u8 t.q.event.toNat, t.cv, .int .u8 t.q.tn.toNat, .int .i64 t.q.tp, .int .i64 t.q.ts, .int .u8 t.q.mark.toNat, .int .i64 t.q.mp, .string t.q.acts] 121) := Blk.new _ _ _
 have HP1 : Hid (PyV _ b st ws p vo) := hp.fr0 hfw
 have HF1 : Hid _ := hfw
 clear hwf ht hsz hrm hp hb hfw
 go_enter Tryz.func70, Tryz.ntmps70
 go_wp2_with fail
 refine (HLB.out _ HP1.out).mono ?_
 clear HLB
 rintro e w2 ⟨rfl, hf2⟩
 have hT2 := Blk.fr HT0.out hf2 (fun h => h)
 have hp2 := HP1.out.fr0 hf2
 have he2 := (EvY.of_fr0 (b := b) (vo := vo) HF1.out).then0 hf2
 clear HT0 HP1 HF1
 unfold setV
 have hthL : (w2.alloc (.cells (#[.bool false, .bool false, .bool false, .bool false, .bool false, .bool false, .bool false, .bool false, .bool false, .bool false, .bool false, .bool false, .bool false, .bool false, .bool false, .bool false, .bool false, .bool false, .bool false, .bool false, .bool false, .bool false, .bool false, .bool false, .bool false, .bool false] : Array Value) 78)).there w2.heap.size 0 (bV m).toArray.size := there_of (Blk.new _ _ _) 0 (by simp [bV, hml])
 have hbL : Blk ((w2.alloc (.cells (#[.bool false, .bool false, .bool false, .bool false, .bool false, .bool false, .bool false, .bool false, .bool false, .bool false, .bool false, .bool false, .bool false, .bool false, .bool false, .bool false, .bool false, .bool false, .bool false, .bool false, .bool false, .bool false, .bool false, .bool false, .bool false, .bool false] : Array Value) 78)).setCells w2.heap.size 0 (bV m)) w2.heap.size (bV m).toArray 78 := by
  rw [← setsA_all (#[.bool false, .bool false, .bool false, .bool false, .bool false, .bool false, .bool false, .bool false, .bool false, .bool false, .bool false, .bool false, .bool false, .bool false, .bool false, .bool false, .bool false, .bool false, .bool false, .bool false, .bool false, .bool false, .bool false, .bool false, .bool false, .bool false] : Array Value) (bV m) (by simp [bV, hml])]; exact Blk.sets _ 0 (Blk.new _ _ _)
 have hfL : Fr (fun _ => False) w2 ((w2.alloc (.cells (#[.bool false, .bool false, .bool false, .bool false, .bool false, .bool false, .bool false, .bool false, .bool false, .bool false, .bool false, .bool false, .bool false, .bool false, .bool false, .bool false, .bool false, .bool false, .bool false, .bool false, .bool false, .bool false, .bool false, .bool false, .bool false, .bool false] : Array Value) 78)).setCells w2.heap.size 0 (bV m)) := Fr.setsr (Or.inr (Nat.le_refl _)) _ 0 (by (repeat (first | exact Fr.refl _ _ | assumption | refine Fr.drewNr ?_ _ | refine Fr.drewr ?_ | refine Fr.allocr ?_ _ | refine Fr.setCellr ?_ _ _ (by first | exact Or.inl rfl | (right; simp; done) | (right; simp; omega)))))
 have raL := rangeB hbL
 have inM := setInfo hml
 have inM' := setInfo' hml
 have oneM := one_bV m
 have hTl := Blk.lt hT2
 have hbl2 := Blk.lt hp2.blk
 go_wp2_with (first | (refine wpList_load_mid rfl 78 _ rfl _ _ rfl _ _ (by assumption) Tryz.underlying78 rfl (by assumption) ?_) | (refine wpList_store_mid rfl 78 _ _ rfl _ _ _ rfl rfl (by assumption) (by assumption) (by assumption) ?_))
 have hT3 := Blk.fr hT2 hfL (fun h => h)
 have hp3 := hp2.fr0 hfL
 have he3 := he2.then0 hfL
 clear raL hthL hfL hT2 hp2 he2
 generalize ((w2.alloc (.cells (#[.bool false, .bool false, .bool false, .bool false, .bool false, .bool false, .bool false, .bool false, .bool false, .bool false, .bool false, .bool false, .bool false, .bool false, .bool false, .bool false, .bool false, .bool false, .bool false, .bool false, .bool false, .bool false, .bool false, .bool false, .bool false, .bool false] : Array Value) 78)).setCells w2.heap.size 0 (bV m)) = w3 at *
 refine (remember_any w3 b st ws p vo m HW.out hp3 hml hs0 HRM.out).mono ?_
 rintro e w4 ⟨rfl, hp4, he4⟩
 obtain ⟨hT4, hnT4⟩ := he4.keeps hT3 (HNY.out _ (Nat.le_refl _))
 obtain ⟨hb4, hnL4⟩ := he4.keeps hbL (HNY.out _ (by omega))
 have he4' := he3.trans he4
 have raL := rangeB hb4
 have HO1 : Hid ((rmF st m st.length p).out = p.out) := rmF_out st m _ p
 clear hT3 hp3 he3 hbL he4
 generalize rmF st m st.length p = p1 at *
 go_wp2_with (first | (refine wpList_load_mid rfl 78 _ rfl _ _ rfl _ _ (by assumption) Tryz.underlying78 rfl (by assumption) ?_) | (refine wpList_store_mid rfl 78 _ _ rfl _ _ _ rfl rfl (by assumption) (by assumption) (by assumption) ?_))
 refine (leave_any w4 b st ws p1 vo m HW.out HSZ.out hp4 hml (by have := HB.out; rw [HO1.out]; omega) hs0).mono ?_
 rintro e w5 ⟨rfl, hl5, vo5, hp5, he5⟩
 rw [HO1.out] at hl5
 obtain ⟨hT5, hnT5⟩ := he5.keeps hT4 hnT4
 have he5' := he4'.trans he5
 have HL5 : Hid ((lvF st m st.length p1).out.length ≤ p.out.length + 4160) := hl5
 clear hT4 hp4 he4' hb4 raL he5 hl5 hnT4 hnL4
 generalize lvF st m st.length p1 = p2 at *
 have t8 : w5.cell? ⟨w.heap.size, 8, none⟩ = some (.string t.q.acts) := by rw [Blk.cell hT5]; rfl
 go_wp2_with fail
 refine (put_any w5 b st ws p2 vo5 t.q.acts hp5 (by have := HB.out; have := HL5.out; omega)).mono ?_
 rintro e w6 ⟨rfl, vo6, hp6, he6⟩
 obtain ⟨hT6, hnT6⟩ := he6.keeps hT5 hnT5
 have he6' := he5'.trans he6
 have HL6 : Hid (({ p2 with out := p2.out ++ bls t.q.acts } : Py).out.length ≤ p.out.length + 4320) := by
  have := HL5.out
  show (p2.out ++ bls t.q.acts).length ≤ _
  rw [List.length_append, bls_len]; omega
 clear hT5 hp5 he5' he6 t8
 generalize ({ p2 with out := p2.out ++ bls t.q.acts } : Py) = p3 at *
 have q0 : w6.cell? ⟨w.heap.size, 0, none⟩ = some (.int .i64 t.q.own) := by rw [Blk.cell hT6]; rfl
 have q1 : w6.cell? ⟨w.heap.size, 1, none⟩ = some (.int .u8 t.q.event.toNat) := by rw [Blk.cell hT6]; rfl
 have q2 : w6.cell? ⟨w.heap.size, 2, none⟩ = some t.cv := by rw [Blk.cell hT6]; rfl
 have q3 : w6.cell? ⟨w.heap.size, 3, none⟩ = some (.int .u8 t.q.tn.toNat) := by rw [Blk.cell hT6]; rfl
 have q4 : w6.cell? ⟨w.heap.size, 4, none⟩ = some (.int .i64 t.q.tp) := by rw [Blk.cell hT6]; rfl
 have q5 : w6.cell? ⟨w.heap.size, 5, none⟩ = some (.int .i64 t.q.ts) := by rw [Blk.cell hT6]; rfl
 have q6 : w6.cell? ⟨w.heap.size, 6, none⟩ = some (.int .u8 t.q.mark.toNat) := by rw [Blk.cell hT6]; rfl
 have q7 : w6.cell? ⟨w.heap.size, 7, none⟩ = some (.int .i64 t.q.mp) := by rw [Blk.cell hT6]; rfl
 have q8 : w6.cell? ⟨w.heap.size, 8, none⟩ = some (.string t.q.acts) := by rw [Blk.cell hT6]; rfl
 have c0 := hp6.c0
 have c1 := hp6.c1
 have HPL : Hid (PlR w6.drew st ws) := (hp6.fr0 (Fr.drew _ _)).pl
 have HE : Hid (∀ (W : World) (q : Py) (vq : Value), PyV W b st ws q vq → q.out.length + 5368709120 ≤ 70000000000000 → Calls Tryz.prog 43 #[.pointer (some ⟨b, 0, none⟩), .int .i64 (fiOf st t.q), .agg #[.int .i64 t.q.ts, .int .u8 t.q.mark.toNat, .int .i64 (-1)]] W fun e w' => e = .returned (.tuple #[]) ∧ (enF st 26 (fiOf st t.q) ⟨t.q.ts, t.q.mark, -1⟩ q).out.length ≤ q.out.length + 5368709120 ∧ ∃ vo', PyV w' b st ws (enF st 26 (fiOf st t.q) ⟨t.q.ts, t.q.mark, -1⟩ q) vo' ∧ EvY b vq vo' W w') := by
  intro W q vq hq hl
  have h25 : 160 * 2 ^ (25 - fiOf st t.q) ≤ 5368709120 := Nat.le_trans (Nat.mul_le_mul_left 160 (pow_mono (Nat.zero_le _))) (by decide)
  have hto := HT.out
  refine (enter_all st ws b HW.out HSZ.out 26 W q vq (fiOf st t.q) ⟨t.q.ts, t.q.mark, -1⟩ hq HFI.out (by omega) ⟨by have := hto.2.1; show -1 ≤ t.q.ts; omega, hto.2.2, Int.le_refl _, by show (-1 : Int) < _; omega⟩ (by omega)).mono ?_
  rintro e w' ⟨h1, h2, h3⟩
  exact ⟨h1, by omega, h3⟩
 have HK : Hid (∀ W', Fr (fun _ => False) w6 W' → (W'.cell? ⟨w.heap.size, 5, none⟩ = some (.int .i64 t.q.ts) ∧ W'.cell? ⟨w.heap.size, 6, none⟩ = some (.int .u8 t.q.mark.toNat) ∧ W'.cell? ⟨b, 0, none⟩ = some ws.v2 ∧ W'.cell? ⟨b, 1, none⟩ = some ws.v3)) := by
  intro W' hf
  have h1 := Blk.fr hT6 hf (fun h => h)
  have h2 := hp6.fr0 hf
  exact ⟨by rw [Blk.cell h1]; rfl, by rw [Blk.cell h1]; rfl, h2.c0, h2.c1⟩
 have HP6 : Hid _ := hp6
 have HE6 : Hid _ := he6'
 clear hT6 hp6 he6' hnT6 hnT5
 go_wp2_with fail
 go_region_with (go_at_call 93; refine Calls.mono (HSC.out _ HPL.out) ?_; rintro e w7 ⟨rfl, hf7⟩)
 all_goals
  have hf67 := (Fr.refl (fun _ => False) w6).drewr.thenr hf7 (fun _ _ h => h)
  obtain ⟨r5, r6, d0, d1⟩ := HK.out w7 hf67
  clear q0 q1 q2 q3 q4 q5 q6 q7 q8 c0 c1 hf7 HPL
  by_cases h1 : scOf st t.q = -1
  ·have HFe : Hid (fiOf st t.q = 0) := by show _ = _; rw [fiOf, if_pos h1]
   have hsb : (scOf st t.q != -1) = false := by rw [h1]; rfl
   have HE0 : Hid (∀ (W : World) (q : Py) (vq : Value), PyV W b st ws q vq → q.out.length + 5368709120 ≤ 70000000000000 → Calls Tryz.prog 43 #[.pointer (some ⟨b, 0, none⟩), .int .i64 0, .agg #[.int .i64 t.q.ts, .int .u8 t.q.mark.toNat, .int .i64 (-1)]] W fun e w' => e = .returned (.tuple #[]) ∧ (enF st 26 (fiOf st t.q) ⟨t.q.ts, t.q.mark, -1⟩ q).out.length ≤ q.out.length + 5368709120 ∧ ∃ vo', PyV w' b st ws (enF st 26 (fiOf st t.q) ⟨t.q.ts, t.q.mark, -1⟩ q) vo' ∧ EvY b vq vo' W w') := by
    intro W q vq h1 h2
    have h3 := HE.out W q vq h1 h2
    rw [show ((fiOf st t.q : Nat) : Int) = 0 by rw [HFe.out]; rfl] at h3
    exact h3
   rw [h1]
   clear h1 HFe
   go_wp2_with fail
   refine (HE0.out w7 p3 vo6 (HP6.out.fr0 hf67) (by have := HL6.out; have := HB.out; omega)).mono ?_
   rintro e w8 ⟨rfl, hl8, vo8, hp8, he8⟩
   have HL8 : Hid ((enF st 26 (fiOf st t.q) ⟨t.q.ts, t.q.mark, -1⟩ p3).out.length ≤ p.out.length + 5368714000) := by have := HL6.out; show _ ≤ _; omega
   clear hl8
   go_wp2_with fail
   go_end0
   rw [HTK.out]
   exact ⟨rfl, HL8.out, vo8, hp8, (HE6.out.then0 hf67).trans he8⟩
  ·obtain ⟨k, hk⟩ : ∃ k : Nat, scOf st t.q = k := ⟨(scOf st t.q).toNat, by omega⟩
   have HFe : Hid (fiOf st t.q = inTo st k t.q.ts.toNat) := by show _ = _; rw [fiOf, if_neg h1, hk]; rfl
   have hne : ((k : Int) != -1) = true := by rw [bne_iff_ne]; omega
   have HE0 : Hid (∀ (W : World) (q : Py) (vq : Value), PyV W b st ws q vq → q.out.length + 5368709120 ≤ 70000000000000 → Calls Tryz.prog 43 #[.pointer (some ⟨b, 0, none⟩), .int .i64 (inTo st k t.q.ts.toNat), .agg #[.int .i64 t.q.ts, .int .u8 t.q.mark.toNat, .int .i64 (-1)]] W fun e w' => e = .returned (.tuple #[]) ∧ (enF st 26 (fiOf st t.q) ⟨t.q.ts, t.q.mark, -1⟩ q).out.length ≤ q.out.length + 5368709120 ∧ ∃ vo', PyV w' b st ws (enF st 26 (fiOf st t.q) ⟨t.q.ts, t.q.mark, -1⟩ q) vo' ∧ EvY b vq vo' W w') := by
    intro W q vq h1 h2
    have h3 := HE.out W q vq h1 h2
    rw [show ((fiOf st t.q : Nat) : Int) = ((inTo st k t.q.ts.toNat : Nat) : Int) by rw [HFe.out]] at h3
    exact h3
   have HIT : Hid (∀ W, PlR W st ws → Calls Tryz.prog 84 #[.agg #[ws.v2, ws.v3], .int .i64 k, .int .i64 t.q.ts] W fun e w' => e = .returned (.int .i64 (inTo st k t.q.ts.toNat)) ∧ Fr (fun _ => False) W w') := by
    intro W h
    have h3 := innerTowards_any W st ws k t.q.ts.toNat HW.out h (by omega)
    rw [Int.toNat_of_nonneg HT.out.2.1] at h3
    exact h3
   have HPL7 : Hid (PlR w7.drew st ws) := (HP6.out.fr0 hf67.drewr).pl
   rw [hk]
   clear h1 HFe
   go_wp2_with fail
   go_region_with (go_at_call 84; refine Calls.mono (HIT.out _ HPL7.out) ?_; rintro e w8 ⟨rfl, hf8⟩)
   all_goals
    have hf68 := hf67.drewr.thenr hf8 (fun _ _ h => h)
    obtain ⟨z5, z6, -, -⟩ := HK.out w8 hf68
    clear r5 r6 d0 d1 hf8
    go_wp2_with fail
    refine (HE0.out w8 p3 vo6 (HP6.out.fr0 hf68) (by have := HL6.out; have := HB.out; omega)).mono ?_
    rintro e w9 ⟨rfl, hl9, vo9, hp9, he9⟩
    have HL9 : Hid ((enF st 26 (fiOf st t.q) ⟨t.q.ts, t.q.mark, -1⟩ p3).out.length ≤ p.out.length + 5368714000) := by have := HL6.out; show _ ≤ _; omega
    clear hl9
    go_wp2_with fail
    go_end0
    rw [HTK.out]
    exact ⟨rfl, HL9.out, vo9, hp9, (HE6.out.then0 hf68).trans he9⟩
end Go.Proofs.YtmolmbeeoecnfaaGreatDoor
