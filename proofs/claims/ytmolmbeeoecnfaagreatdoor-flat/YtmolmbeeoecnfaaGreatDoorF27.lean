/- Own work: CoW5. -/
import Derived.Test.YtmolmbeeoecnfaaGreatDoorF24
/- Own work: walks of the compiler: cells. -/
namespace Go.Proofs.YtmolmbeeoecnfaaGreatDoor
open Go.RowKit Go.BigFrame
set_option linter.unusedVariables false
set_option linter.unusedSimpArgs false

section
variable {w : World} {b : Nat} {st : List StP} {v2 v3 : Value} {th : List TrH} {es : ByteArray} {p : Py} {vo vR : Value} {l : List Sx} {rows : List ByteArray} {gg cc : Nat}
theorem CoV.facts (h : CoV w b st v2 v3 th es p vo (.slice (some ⟨gg, 0, none⟩) l.length cc) vR l rows) {n : Nat} {x : Sx} (hn : l[n]? = some x) :
  w.cell? ⟨b, 705, none⟩ = some (.string es) ∧ w.cell? ⟨b, 706, none⟩ = some (.slice (some ⟨gg, 0, none⟩) l.length cc) ∧ w.rangeAt gg (n * 702) (sxC x) ∧ w.there b 2 (sxC x).toArray.size ∧ (w.setCells b 2 (sxC x)).heap.size = w.heap.size ∧
  (w.setCells b 2 (sxC x)).cell? ⟨b, 704, none⟩ = some vo ∧ (w.setCells b 2 (sxC x)).frozen? ⟨b, 704, none⟩ = false ∧ b < w.heap.size := by
 have hx := h.lo x (List.mem_of_getElem? hn)
 have h1 := h.py.setNow x hx
 refine ⟨h.c5, h.c6, rngS h.rS h.lo hn, there_of h.py.blk 2 ?_, sets_size b _ 2 w, h1.co, h1.fz 704, Blk.lt h.py.blk⟩
 rw [List.size_toArray, List.size_toArray, pyC_len h.py.ok, sxC_len hx]; omega
end
theorem app_len {t m : List UInt8} {D : ByteArray} (h : D.data.toList = m) : t.length + D.size = (t ++ m).length ∧ byV t ++ Go.Lib.strCells D = byV (t ++ m) := by
 subst h
 refine ⟨by rw [List.length_append]; rfl, ?_⟩
 rw [strCells_bls, byV, byV, byV, List.map_append]; rfl
theorem app_byV (t m : List UInt8) : byV t ++ byV m = byV (t ++ m) := by simp [byV]

set_option maxRecDepth 100000 in
set_option maxHeartbeats 8000000 in
theorem cells_any (H : Nat) (T : World → Prop) (hI : ItO H T) (w : World) (b : Nat) (st : List StP) (v2 v3 : Value) (th : List TrH) (es : ByteArray) (p : Py) (vo vS vR : Value) (l : List Sx) (rows : List ByteArray) (hV : CoV w b st v2 v3 th es p vo vS vR l rows) (hT : T w) (hHb : H ≤ b) (hP : PlOk st (th.map TrH.q)) (htr : Tr st) (n : Nat) (x : Sx) (hx : l[n]? = some x) (hes : es.size ≤ 26) (hl : l.length ≤ 500) :
  Calls Tryz.prog 31 #[.pointer (some ⟨b, 0, none⟩), .int .i64 n] w fun e w' => e = .returned (.string ⟨(ceK st th es x l es.size).2.toArray⟩) ∧ Fr (fun k => b ≤ k) w w' ∧ ∃ p' vo' vS', CoV w' b st v2 v3 th es p' vo' vS' vR (ceK st th es x l es.size).1 rows := by
 obtain ⟨hTh, hTa, hTl⟩ := hP.th
 have HPK : Hid (PlOk st (th.map TrH.q)) := hP
 have HTHK : Hid (ThOk st th ∧ TaOk th ∧ th.length ≤ 1000000) := ⟨hTh, hTa, hTl⟩
 have HXO : Hid (SxOk x) := hV.lo x (List.mem_of_getElem? hx)
 have HLN : Hid (∀ k, (ceK st th es x l k).1.length ≤ l.length + k) := ceK_llen st th es x l
 have HTL : Hid (∀ k, k ≤ 1000 → (ceK st th es x l k).2.length ≤ k * 220488) := ceK_tlen htr hP.sz (fun t ht => ⟨(hTh t ht).1, hTa t ht⟩) es x l (by omega)
 have HGX : Hid (∀ k, (ceK st th es x l k).1[n]? = some x) := fun k => by
  rw [pre_get (ceK_pre st th es x l k) (List.getElem?_eq_some_iff.1 hx).1]; exact hx
 have HOB : Hid (∀ ev : UInt8, (spS st th ev x).out.length ≤ 220480) := fun ev => by
  have h1 := spF_olen htr hP.sz (fun t ht => ⟨(hTh t ht).1, hTa t ht⟩) ev ⟨x.1, x.2, []⟩
  have : ({ act := x.1, mm := x.2, out := [] } : Py).out.length = 0 := rfl
  rw [this] at h1
  unfold spS; omega
 have HN : Hid (n < l.length) := (List.getElem?_eq_some_iff.1 hx).1
 have HT : Hid (T w) := hT
 have HI : Hid (ItO H T) := hI
 have HHB : Hid (H ≤ b) := hHb
 have hbl := Blk.lt hV.py.blk
 have hfa : Fr (fun k => b ≤ k) w (w.alloc (.cells #[] 5)) := by (repeat (first | exact Fr.refl _ _ | assumption | refine Fr.drewNr ?_ _ | refine Fr.drewr ?_ | refine Fr.allocr ?_ _ | refine Fr.setCellr ?_ _ _ (by first | exact Or.inl rfl | (right; simp; done) | (right; simp; omega))))
 have HVA : Hid (CoV (w.alloc (.cells #[] 5)) b st v2 v3 th es p vo vS vR l rows) := hV.fr0 (by (repeat (first | exact Fr.refl _ _ | assumption | refine Fr.drewNr ?_ _ | refine Fr.drewr ?_ | refine Fr.allocr ?_ _ | refine Fr.setCellr ?_ _ _ (by first | exact Or.inl rfl | (right; simp; done) | (right; simp; omega)))))
 have HTA : Hid (TxV (w.alloc (.cells #[] 5)) b (.slice (some ⟨w.heap.size, 0, none⟩) 0 0) [] vo vS vR) := ⟨row_noneB w _ 1 (b + 1) (by omega), fun j hj => by
  simp only [Value.ownBlock, Option.some.injEq] at hj
  refine ⟨fun e => ?_, fun e => ?_, fun e => ?_⟩
  ·have := (hV.py.roB j e).2; omega
  ·have := (hV.rS.lt j e).2; omega
  ·have := (hV.rR.lt j e).2; omega⟩
 have HFA : Hid _ := hfa
 clear hP htr hTh hTa hTl hV hx hT hI hHb hfa
 go_enter Tryz.func31, Tryz.ntmps31
 go_wp2_with fail
 go_loopg [5, 6] 27 (fun g vt vi wr => ∃ (k : Nat) (pk : Py) (vok vSk : Value), k ≤ es.size ∧ vi = .int .i64 k ∧ Hid (CoV wr b st v2 v3 th es pk vok vSk vR (ceK st th es x l k).1 rows) ∧ Hid (TxV wr b vt (ceK st th es x l k).2 vok vSk vR) ∧ Hid (Fr (fun k => b ≤ k) w wr) ∧ es.size - k ≤ g)
 case atStart => exact ⟨0, p, vo, vS, Nat.zero_le _, rfl, HVA, HTA, HFA, by omega⟩
 case round =>
  clear HVA HTA HFA
  obtain ⟨k, pk, vok, vSk, hk, rfl, HV, HTx, HF, hg⟩ := hrel
  by_cases hlt : (k : Int) < es.size
  ·have hlt' : k < es.size := by omega
   have hLn := HLN.out k
   have hTn := HTL.out k (by omega)
   have hXL := HGX.out k
   have HNX : Hid (ceK st th es x l (k + 1) = (adS (ceK st th es x l k).1 (sxP (spS st th (byte es k) x)), (((ceK st th es x l k).2 ++ (if k = 0 then [] else [44])) ++ Lib.decDigits (nuS (ceK st th es x l k).1 (sxP (spS st th (byte es k) x)))) ++ [58] ++ (spS st th (byte es k) x).out)) := rfl
   obtain ⟨L, hL⟩ : ∃ L, (ceK st th es x l k).1 = L := ⟨_, rfl⟩
   obtain ⟨t, ht⟩ : ∃ t, (ceK st th es x l k).2 = t := ⟨_, rfl⟩
   rw [hL] at HV hLn hXL
   rw [ht] at HTx hTn
   rw [hL, ht] at HNX
   clear hL ht
   obtain ⟨t2, ht2⟩ : ∃ t2, t ++ (if k = 0 then [] else [44]) = t2 := ⟨_, rfl⟩
   rw [ht2] at HNX
   have HT2 : Hid (t ++ (if k = 0 then [] else [44]) = t2) := ht2
   clear ht2
   have htn : t.length ≤ 5732688 := Nat.le_trans hTn (Nat.mul_le_mul_right 220488 (show k ≤ 26 by omega))
   have hnL : n < L.length := (List.getElem?_eq_some_iff.1 hXL).1
   obtain ⟨gg, cc, hvS, hcc⟩ := row_form HV.out.rS (by omega)
   obtain ⟨oa, oc, hvo⟩ := row_lenB HV.out.py.ro
   obtain ⟨ta, tc, hvt⟩ := row_lenB HTx.out.r
   subst hvS hvo hvt
   have HXL : Hid (L[n]? = some x) := hXL
   have HX1 : Hid (byte es k = es[k]) := byte_in es k hlt'
   obtain ⟨c5, c6, rx, thB, hss, c704, z704, hbw⟩ := HV.out.facts hXL
   have hix := sts_info HXO.out
   have hix' : (Tryz.prog.info? 81).map (·.size) = some (sxC x).toArray.size := by rw [List.size_toArray]; exact hix
   have hone := all_oneCell_toArray (sxC_one x)
   have hu := Tryz.underlying81
   have hL6 : L.length ≤ 600 := by omega
   clear hXL hTn hLn
   rcases Nat.eq_zero_or_pos k with h0 | h0
   ·have hd0 : decide ((0 : Int) < k) = false := by simp [h0]
    have hd1 : decide (0 < k) = false := by simp [h0]
    have e2 : t2 = t := by rw [← HT2.out, if_pos h0, List.append_nil]
    subst e2
    obtain ⟨hV1, hf1⟩ := HV.out.start x HXO.out
    have HV1 : Hid _ := hV1
    have HTx1 : Hid _ := HTx.out.start hf1
    have HF1 : Hid _ := HF.out.thenr hf1 (fun k _ e => Nat.le_of_eq e.symm)
    have htn1 : t2.length ≤ 5732689 := by omega
    clear hV1 hf1 h0 HT2 htn
    go_wp2_with (first | (refine wpList_load_mid rfl 81 _ rfl _ _ rfl _ _ rx hu rfl hix ?_) | (refine wpList_store_mid rfl 81 _ _ rfl _ _ _ rfl rfl thB hix' hone ?_))
    clear c5 c6 rx thB hss c704 z704 hbw hd0 hd1 HV HTx HF
    generalize (((wr.setCells b 2 (sxC x)).setCell ⟨b, 704, none⟩ (.slice (some ⟨wr.heap.size, 0, none⟩) 0 0)).alloc (.cells #[] 5)) = W1 at *
    generalize wr.heap.size = ob at *
    have c5 := HV1.out.c5
    have c5d : W1.drew.cell? ⟨b, 705, none⟩ = some (.string es) := c5
    have hob : b < ob := (HV1.out.py.roB ob rfl).1
    have HSTP : Hid (∀ w', Fr (fun _ => False) W1 w' → Calls Tryz.prog 44 #[.pointer (some ⟨b, 0, none⟩), .int .u8 es[k].toNat] w' fun e w'' => e = .returned (.tuple #[]) ∧ ∃ vo', PyV w'' b st ⟨v2, v3, th, [.string es, .slice (some ⟨gg, 0, none⟩) L.length cc, vR], 87⟩ (spS st th (byte es k) x) vo' ∧ EvY b (.slice (some ⟨ob, 0, none⟩) 0 0) vo' w' w'') := fun w' f => by
     have h := step_any w' b st _ _ _ es[k] HPK.out.wf HPK.out.sz HPK.out.rm (HV1.out.fr0 f).py HTHK.out.1 HTHK.out.2.1 HTHK.out.2.2 (by show 0 + _ ≤ _; omega)
     refine h.mono ?_
     rintro e w'' ⟨rfl, -, vo', h1, h2⟩
     rw [HX1.out]
     exact ⟨rfl, vo', h1, h2⟩
    go_region_held3 (fun w' => w'.cell? ⟨b, 705, none⟩ = some (.string es)) (first | assumption | exact c5d) (first | (go_at_call 44; refine Calls.mono (HSTP.out _ (by (repeat (first | exact Fr.refl _ _ | assumption | refine Fr.drewNr ?_ _ | refine Fr.drewr ?_ | refine Fr.allocr ?_ _ | refine Fr.setCellr ?_ _ _ (by first | exact Or.inl rfl | (right; simp; done) | (right; simp; omega)))))) ?_; rintro e w5 ⟨rfl, vo5, hp5, he5⟩; have d5 : w5.cell? ⟨b, 705, none⟩ = some (.string es) := hp5.ctl 0))
    have HV5 : Hid _ := (HV1.out.fr0 (by (repeat (first | exact Fr.refl _ _ | assumption | refine Fr.drewNr ?_ _ | refine Fr.drewr ?_ | refine Fr.allocr ?_ _ | refine Fr.setCellr ?_ _ _ (by first | exact Or.inl rfl | (right; simp; done) | (right; simp; omega)))) : Fr (fun _ => False) W1 W1.drew)).step hp5 he5
    have HTx5 : Hid _ := (HTx1.out.fr0 (by (repeat (first | exact Fr.refl _ _ | assumption | refine Fr.drewNr ?_ _ | refine Fr.drewr ?_ | refine Fr.allocr ?_ _ | refine Fr.setCellr ?_ _ _ (by first | exact Or.inl rfl | (right; simp; done) | (right; simp; omega)))) : Fr (fun _ => False) W1 W1.drew)).step he5
    have HF5 : Hid (Fr (fun k => b ≤ k) w w5) := (HF1.out.thenr (by (repeat (first | exact Fr.refl _ _ | assumption | refine Fr.drewNr ?_ _ | refine Fr.drewr ?_ | refine Fr.allocr ?_ _ | refine Fr.setCellr ?_ _ _ (by first | exact Or.inl rfl | (right; simp; done) | (right; simp; omega)))) : Fr (fun _ => False) W1 W1.drew) (fun _ _ h => h.elim)).thenr he5.fr (fun k _ ho => by
     rcases ho with e | e
     ·omega
     ·simp only [Value.ownBlock, Option.some.injEq] at e; omega)
    have rn := HV5.out.py.rnow
    have hpo := HV5.out.py.ok
    have hqo := HOB.out (byte es k)
    obtain ⟨q, hq⟩ : ∃ q, spS st th (byte es k) x = q := ⟨_, rfl⟩
    rw [hq] at HV5 rn hpo HNX hqo
    clear hp5 he5 hq HSTP c5 c5d d5 HV1 HTx1 HF1 HX1
    obtain ⟨y, hy⟩ : ∃ y, sxP q = y := ⟨_, rfl⟩
    have HYO : Hid (SxOk y) := by rw [← hy]; exact ⟨hpo.la, hpo.lm, hpo.le⟩
    have ry : w5.rangeAt b 2 (sxC y) := by rw [← hy]; exact rn
    rw [hy] at HNX
    clear hy rn hpo
    have hiy := sts_info HYO.out
    have r7 : (w5.alloc (.cells (sxC y).toArray 81)).rangeAt w5.heap.size 0 (sxC y) := rangeB (Blk.new _ _ _)
    go_wp2_with (first | (refine wpList_load_mid rfl 81 _ rfl _ _ rfl _ _ ry hu rfl hiy ?_) | (refine wpList_alcS rfl rfl ?_) | (refine wpList_stoS rfl _ _ rfl _ _ y HYO.out rfl rfl rfl rfl ?_) | (refine wpList_load_mid rfl 81 _ rfl _ _ rfl _ _ r7 hu rfl hiy ?_))
    have HVb : Hid _ := HV5.out.fr0 (by (repeat (first | exact Fr.refl _ _ | assumption | refine Fr.drewNr ?_ _ | refine Fr.drewr ?_ | refine Fr.allocr ?_ _ | refine Fr.setCellr ?_ _ _ (by first | exact Or.inl rfl | (right; simp; done) | (right; simp; omega)))) : Fr (fun _ => False) w5 (w5.alloc (.cells (sxC y).toArray 81)))
    have HTb : Hid _ := HTx5.out.fr0 (by (repeat (first | exact Fr.refl _ _ | assumption | refine Fr.drewNr ?_ _ | refine Fr.drewr ?_ | refine Fr.allocr ?_ _ | refine Fr.setCellr ?_ _ _ (by first | exact Or.inl rfl | (right; simp; done) | (right; simp; omega)))) : Fr (fun _ => False) w5 (w5.alloc (.cells (sxC y).toArray 81)))
    have HFb : Hid _ := HF5.out.thenr (by (repeat (first | exact Fr.refl _ _ | assumption | refine Fr.drewNr ?_ _ | refine Fr.drewr ?_ | refine Fr.allocr ?_ _ | refine Fr.setCellr ?_ _ _ (by first | exact Or.inl rfl | (right; simp; done) | (right; simp; omega)))) : Fr (fun _ => False) w5 (w5.alloc (.cells (sxC y).toArray 81))) (fun _ _ h => h.elim)
    clear ry r7 HV5 HTx5 HF5
    generalize w5.alloc (.cells (sxC y).toArray 81) = w6 at *
    refine (giveNumber_any w6 b st v2 v3 th es _ _ _ vR L rows HVb.out y HYO.out (by omega)).mono ?_
    rintro e w7 ⟨rfl, vS7, hV7, hf7, hn7⟩
    have HV7 : Hid _ := hV7
    have HTx7 : Hid _ := HTb.out.other hf7 hn7
    have HF7 : Hid (Fr (fun k => b ≤ k) w w7) := HFb.out.thenr hf7 (fun k _ ho => by
     rcases ho with e | e
     ·omega
     ·exact Nat.le_of_lt (HVb.out.bS k e))
    have HT7 : Hid (T w7) := HI.out.keep w w7 _ HT.out HF7.out (fun k hk => Nat.le_trans HHB.out hk)
    have hnu := nuS_le L y
    clear hV7 hf7 hn7 HVb HTb HFb
    go_wp2_with fail
    refine (HI.out.call w7 (nuS L y) HT7.out (by omega)).mono ?_
    rintro e w8 ⟨rfl, hf8⟩
    have HV8 : Hid _ := HV7.out.fr0 hf8
    have HTx8 : Hid _ := HTx7.out.fr0 hf8
    have HF8 : Hid _ := HF7.out.thenr hf8 (fun _ _ h => h.elim)
    have hdl := decD_len (n := nuS L y) (by omega)
    obtain ⟨D, hD⟩ : ∃ D : ByteArray, (⟨(Lib.decDigits (nuS L y)).toArray⟩ : ByteArray) = D := ⟨_, rfl⟩
    have HDL : Hid (D.data.toList = Lib.decDigits (nuS L y)) := by show _ = _; rw [← hD]
    have hds : D.size ≤ 6 := by have : D.size = D.data.toList.length := rfl; rw [this, HDL.out]; exact hdl
    rw [hD]
    clear hD hf8 HV7 HTx7 HF7 HT7 hnu
    have hr8 := HTx8.out.r
    have hb8 := Blk.lt HV8.out.py.blk
    obtain ⟨t3, ht3⟩ : ∃ t3, t2 ++ Lib.decDigits (nuS L y) = t3 := ⟨_, rfl⟩
    obtain ⟨t4, ht4⟩ : ∃ t4, t3 ++ [58] = t4 := ⟨_, rfl⟩
    have hl9 : t3.length ≤ 5732700 := by rw [← ht3, List.length_append]; omega
    have hl10 : t4.length ≤ 5732701 := by rw [← ht4, List.length_append]; simp only [List.length_cons, List.length_nil]; omega
    rw [ht3, ht4] at HNX
    have HT3 : Hid (t2 ++ Lib.decDigits (nuS L y) = t3) := ht3
    have HT4 : Hid (t3 ++ [58] = t4) := ht4
    clear ht3 ht4
    have hone8 : ∀ u ∈ byV q.out, u.oneCell' = true := by intro u hu; simp only [byV, List.mem_map] at hu; obtain ⟨_, _, rfl⟩ := hu; rfl
    obtain ⟨ht8, ⟨i8, z8, hi8, -, -, -, -⟩, -⟩ := elemU8
    rcases HV8.out.py.ro.2 with ⟨hnil, hz⟩ | ⟨g0, cap0, cur0, hv0, -⟩
    ·have HQE : Hid (q.out = []) := List.length_eq_zero_iff.1 hz
     subst hnil
     clear hz hone8
     go_wp2_with (first | (at_builtin; refine wpList_appendS rfl _ _ _ _ rfl (b + 1) _ elemU8 zeroU8 Tryz.underlying9 _ t2.length (byV t2) rfl hr8 D rfl (by omega) (by omega) ?_; intro ra rc w9 hrow9 hgrow9 hold9; obtain ⟨hTx9, hV9, hf9⟩ := HTx8.out.push HV8.out (m := Lib.decDigits (nuS L y)) (by rw [← (app_len HDL.out).1, ← (app_len HDL.out).2]; exact hrow9) hgrow9 hold9; rw [HT3.out] at hTx9; have HV9 : Hid _ := hV9.fr0 (Fr.alloc (fun _ => False) w9 (.cells #[.int .u8 58] 5)); have HTx9 : Hid _ := hTx9.fr0 (Fr.alloc (fun _ => False) w9 (.cells #[.int .u8 58] 5)); have HF9 : Hid _ := (HF8.out.thenr hf9 (fun k _ e => Nat.le_of_lt e)).thenr (Fr.alloc (fun _ => False) w9 (.cells #[.int .u8 58] 5)) (fun _ _ h => h.elim); have hr9 := HTx9.out.r; have hb9 := Blk.lt hV9.py.blk; clear hrow9 hgrow9 hold9 hTx9 hV9 hf9 hr8) | (at_builtin; refine wpList_appendP rfl _ _ _ rfl (b + 1) _ elemU8 _ t3.length (byV t3) rfl hr9 ⟨w9.heap.size, 0, none⟩ 1 1 [.int .u8 58] rfl rfl (by exact cells_new (Blk.new _ _ _)) (by intro u hu; simp at hu; subst hu; rfl) (by omega) (by simp; omega) ?_; intro rb rd w10 hrow10 hgrow10 hold10; obtain ⟨hTx10, hV10, hf10⟩ := HTx9.out.push HV9.out (m := [58]) (by rw [List.length_append (bs := [58]), ← app_byV t3 [58]]; exact hrow10) hgrow10 hold10; rw [HT4.out] at hTx10; have HV10 : Hid _ := hV10; have HTx10 : Hid _ := hTx10; have HF10 : Hid _ := HF9.out.thenr hf10 (fun k _ e => Nat.le_of_lt e); have hr10 := hTx10.r; have c10 := hV10.py.co; have hb10 := Blk.lt hV10.py.blk; clear hrow10 hgrow10 hold10 hTx10 hV10 hf10 hr9) | (at_builtin; refine wpList_append_own_none rfl _ _ _ rfl (b + 1) 5 i8 1 ht8 hi8 _ t4.length (byV t4) rfl hr10 rfl ?_))
     go_roundg (es.size - (k + 1))
     case measure => omega
     case rel => exact ⟨k + 1, q, _, vS7, by omega, by go_num, (by show CoV _ _ _ _ _ _ _ _ _ _ _ _ _; rw [HNX.out]; exact HV10.out), (by show TxV _ _ _ _ _ _ _; rw [HNX.out, HQE.out]; simp only [List.append_nil]; exact HTx10.out), HF10, Nat.le_refl _⟩
    ·subst hv0
     go_wp2_with (first | (at_builtin; refine wpList_appendS rfl _ _ _ _ rfl (b + 1) _ elemU8 zeroU8 Tryz.underlying9 _ t2.length (byV t2) rfl hr8 D rfl (by omega) (by omega) ?_; intro ra rc w9 hrow9 hgrow9 hold9; obtain ⟨hTx9, hV9, hf9⟩ := HTx8.out.push HV8.out (m := Lib.decDigits (nuS L y)) (by rw [← (app_len HDL.out).1, ← (app_len HDL.out).2]; exact hrow9) hgrow9 hold9; rw [HT3.out] at hTx9; have HV9 : Hid _ := hV9.fr0 (Fr.alloc (fun _ => False) w9 (.cells #[.int .u8 58] 5)); have HTx9 : Hid _ := hTx9.fr0 (Fr.alloc (fun _ => False) w9 (.cells #[.int .u8 58] 5)); have HF9 : Hid _ := (HF8.out.thenr hf9 (fun k _ e => Nat.le_of_lt e)).thenr (Fr.alloc (fun _ => False) w9 (.cells #[.int .u8 58] 5)) (fun _ _ h => h.elim); have hr9 := HTx9.out.r; have hb9 := Blk.lt hV9.py.blk; clear hrow9 hgrow9 hold9 hTx9 hV9 hf9 hr8) | (at_builtin; refine wpList_appendP rfl _ _ _ rfl (b + 1) _ elemU8 _ t3.length (byV t3) rfl hr9 ⟨w9.heap.size, 0, none⟩ 1 1 [.int .u8 58] rfl rfl (by exact cells_new (Blk.new _ _ _)) (by intro u hu; simp at hu; subst hu; rfl) (by omega) (by simp; omega) ?_; intro rb rd w10 hrow10 hgrow10 hold10; obtain ⟨hTx10, hV10, hf10⟩ := HTx9.out.push HV9.out (m := [58]) (by rw [List.length_append (bs := [58]), ← app_byV t3 [58]]; exact hrow10) hgrow10 hold10; rw [HT4.out] at hTx10; have HV10 : Hid _ := hV10; have HTx10 : Hid _ := hTx10; have HF10 : Hid _ := HF9.out.thenr hf10 (fun k _ e => Nat.le_of_lt e); have hr10 := hTx10.r; have c10 := hV10.py.co; have hb10 := Blk.lt hV10.py.blk; clear hrow10 hgrow10 hold10 hTx10 hV10 hf10 hr9) | (at_builtin; refine wpList_appendP rfl _ _ _ rfl (b + 1) _ elemU8 _ t4.length (byV t4) rfl hr10 ⟨g0, 0, none⟩ q.out.length cap0 (byV q.out) rfl (by simp [byV]) (HV10.out.py.ro.cells (g := g0) rfl) hone8 (by omega) (by omega) ?_; intro rf rh w11 hrow11 hgrow11 hold11; obtain ⟨hTx11, hV11, hf11⟩ := HTx10.out.push HV10.out (m := q.out) (by rw [List.length_append (bs := q.out), ← app_byV t4 q.out]; exact hrow11) hgrow11 hold11; have HV11 : Hid _ := hV11; have HTx11 : Hid _ := hTx11; have HF11 : Hid _ := HF10.out.thenr hf11 (fun k _ e => Nat.le_of_lt e); clear hrow11 hgrow11 hold11 hTx11 hV11 hf11))
     go_roundg (es.size - (k + 1))
     case measure => omega
     case rel => exact ⟨k + 1, q, _, vS7, by omega, by go_num, (by show CoV _ _ _ _ _ _ _ _ _ _ _ _ _; rw [HNX.out]; exact HV11.out), (by show TxV _ _ _ _ _ _ _; rw [HNX.out]; exact HTx11.out), HF11, Nat.le_refl _⟩
   ·have hd0 : decide ((0 : Int) < k) = true := by simp; omega
    have hd1 : decide (0 < k) = true := by simp [h0]
    have e2 : t ++ [44] = t2 := by rw [← HT2.out, if_neg (by omega)]
    have e3 : t.length + 1 = t2.length := by rw [← e2]; simp
    have htn1 : t2.length ≤ 5732689 := by omega
    have HE2 : Hid (t ++ [44] = t2) := e2
    have HE3 : Hid (t.length + 1 = t2.length) := e3
    have HVA : Hid _ := HV.out.fr0 (by (repeat (first | exact Fr.refl _ _ | assumption | refine Fr.drewNr ?_ _ | refine Fr.drewr ?_ | refine Fr.allocr ?_ _ | refine Fr.setCellr ?_ _ _ (by first | exact Or.inl rfl | (right; simp; done) | (right; simp; omega)))) : Fr (fun _ => False) wr (wr.alloc (.cells #[.int .u8 44] 5)))
    have HTA : Hid _ := HTx.out.fr0 (by (repeat (first | exact Fr.refl _ _ | assumption | refine Fr.drewNr ?_ _ | refine Fr.drewr ?_ | refine Fr.allocr ?_ _ | refine Fr.setCellr ?_ _ _ (by first | exact Or.inl rfl | (right; simp; done) | (right; simp; omega)))) : Fr (fun _ => False) wr (wr.alloc (.cells #[.int .u8 44] 5)))
    have HFA : Hid _ := HF.out.thenr (by (repeat (first | exact Fr.refl _ _ | assumption | refine Fr.drewNr ?_ _ | refine Fr.drewr ?_ | refine Fr.allocr ?_ _ | refine Fr.setCellr ?_ _ _ (by first | exact Or.inl rfl | (right; simp; done) | (right; simp; omega)))) : Fr (fun _ => False) wr (wr.alloc (.cells #[.int .u8 44] 5))) (fun _ _ h => h.elim)
    have hrA := HTA.out.r
    clear h0 HT2 e2 e3 c6 rx thB hss c704 z704
    go_wp2_with (first | (at_builtin; refine wpList_appendP rfl _ _ _ rfl (b + 1) _ elemU8 _ t.length (byV t) rfl hrA ⟨wr.heap.size, 0, none⟩ 1 1 [.int .u8 44] rfl rfl (by exact cells_new (Blk.new _ _ _)) (by intro u hu; simp at hu; subst hu; rfl) (by omega) (by simp; omega) ?_; intro ra rc w4 hrow4 hgrow4 hold4; obtain ⟨hTx4, hV4, hf4⟩ := HTA.out.push HVA.out (m := [44]) (by rw [List.length_append, ← app_byV]; exact hrow4) hgrow4 hold4; have HV4 : Hid _ := hV4; have HTx4 : Hid _ := hTx4; have HF4 : Hid _ := HFA.out.thenr hf4 (fun k _ e => Nat.le_of_lt e); obtain ⟨d5, d6, rx4, thB4, hss4, d704, dz704, hbw4⟩ := hV4.facts HXL.out; clear hrow4 hgrow4 hold4 hTx4 hV4 hf4 hrA) | (refine wpList_load_mid rfl 81 _ rfl _ _ rfl _ _ rx4 hu rfl hix ?_) | (refine wpList_store_mid rfl 81 _ _ rfl _ _ _ rfl rfl thB4 hix' hone ?_))
    rw [HE2.out, HE3.out] at HTx4
    rw [HE3.out]
    obtain ⟨hV1, hf1⟩ := HV4.out.start x HXO.out
    have HV1 : Hid _ := hV1
    have HTx1 : Hid _ := HTx4.out.start hf1
    have HF1 : Hid _ := HF4.out.thenr hf1 (fun k _ e => Nat.le_of_eq e.symm)
    clear c5 hbw hd0 hd1 HV HTx HF HVA HTA HFA HV4 HTx4 HF4 d5 d6 rx4 thB4 hss4 d704 dz704 hbw4 hV1 hf1
    generalize (((w4.setCells b 2 (sxC x)).setCell ⟨b, 704, none⟩ (.slice (some ⟨w4.heap.size, 0, none⟩) 0 0)).alloc (.cells #[] 5)) = W1 at *
    generalize w4.heap.size = ob at *
    have c5 := HV1.out.c5
    have c5d : W1.drew.cell? ⟨b, 705, none⟩ = some (.string es) := c5
    have hob : b < ob := (HV1.out.py.roB ob rfl).1
    have HSTP : Hid (∀ w', Fr (fun _ => False) W1 w' → Calls Tryz.prog 44 #[.pointer (some ⟨b, 0, none⟩), .int .u8 es[k].toNat] w' fun e w'' => e = .returned (.tuple #[]) ∧ ∃ vo', PyV w'' b st ⟨v2, v3, th, [.string es, .slice (some ⟨gg, 0, none⟩) L.length cc, vR], 87⟩ (spS st th (byte es k) x) vo' ∧ EvY b (.slice (some ⟨ob, 0, none⟩) 0 0) vo' w' w'') := fun w' f => by
     have h := step_any w' b st _ _ _ es[k] HPK.out.wf HPK.out.sz HPK.out.rm (HV1.out.fr0 f).py HTHK.out.1 HTHK.out.2.1 HTHK.out.2.2 (by show 0 + _ ≤ _; omega)
     refine h.mono ?_
     rintro e w'' ⟨rfl, -, vo', h1, h2⟩
     rw [HX1.out]
     exact ⟨rfl, vo', h1, h2⟩
    go_region_held3 (fun w' => w'.cell? ⟨b, 705, none⟩ = some (.string es)) (first | assumption | exact c5d) (first | (go_at_call 44; refine Calls.mono (HSTP.out _ (by (repeat (first | exact Fr.refl _ _ | assumption | refine Fr.drewNr ?_ _ | refine Fr.drewr ?_ | refine Fr.allocr ?_ _ | refine Fr.setCellr ?_ _ _ (by first | exact Or.inl rfl | (right; simp; done) | (right; simp; omega)))))) ?_; rintro e w5 ⟨rfl, vo5, hp5, he5⟩; have d5 : w5.cell? ⟨b, 705, none⟩ = some (.string es) := hp5.ctl 0))
    have HV5 : Hid _ := (HV1.out.fr0 (by (repeat (first | exact Fr.refl _ _ | assumption | refine Fr.drewNr ?_ _ | refine Fr.drewr ?_ | refine Fr.allocr ?_ _ | refine Fr.setCellr ?_ _ _ (by first | exact Or.inl rfl | (right; simp; done) | (right; simp; omega)))) : Fr (fun _ => False) W1 W1.drew)).step hp5 he5
    have HTx5 : Hid _ := (HTx1.out.fr0 (by (repeat (first | exact Fr.refl _ _ | assumption | refine Fr.drewNr ?_ _ | refine Fr.drewr ?_ | refine Fr.allocr ?_ _ | refine Fr.setCellr ?_ _ _ (by first | exact Or.inl rfl | (right; simp; done) | (right; simp; omega)))) : Fr (fun _ => False) W1 W1.drew)).step he5
    have HF5 : Hid (Fr (fun k => b ≤ k) w w5) := (HF1.out.thenr (by (repeat (first | exact Fr.refl _ _ | assumption | refine Fr.drewNr ?_ _ | refine Fr.drewr ?_ | refine Fr.allocr ?_ _ | refine Fr.setCellr ?_ _ _ (by first | exact Or.inl rfl | (right; simp; done) | (right; simp; omega)))) : Fr (fun _ => False) W1 W1.drew) (fun _ _ h => h.elim)).thenr he5.fr (fun k _ ho => by
     rcases ho with e | e
     ·omega
     ·simp only [Value.ownBlock, Option.some.injEq] at e; omega)
    have rn := HV5.out.py.rnow
    have hpo := HV5.out.py.ok
    have hqo := HOB.out (byte es k)
    obtain ⟨q, hq⟩ : ∃ q, spS st th (byte es k) x = q := ⟨_, rfl⟩
    rw [hq] at HV5 rn hpo HNX hqo
    clear hp5 he5 hq HSTP c5 c5d d5 HV1 HTx1 HF1 HX1
    obtain ⟨y, hy⟩ : ∃ y, sxP q = y := ⟨_, rfl⟩
    have HYO : Hid (SxOk y) := by rw [← hy]; exact ⟨hpo.la, hpo.lm, hpo.le⟩
    have ry : w5.rangeAt b 2 (sxC y) := by rw [← hy]; exact rn
    rw [hy] at HNX
    clear hy rn hpo
    have hiy := sts_info HYO.out
    have r7 : (w5.alloc (.cells (sxC y).toArray 81)).rangeAt w5.heap.size 0 (sxC y) := rangeB (Blk.new _ _ _)
    go_wp2_with (first | (refine wpList_load_mid rfl 81 _ rfl _ _ rfl _ _ ry hu rfl hiy ?_) | (refine wpList_alcS rfl rfl ?_) | (refine wpList_stoS rfl _ _ rfl _ _ y HYO.out rfl rfl rfl rfl ?_) | (refine wpList_load_mid rfl 81 _ rfl _ _ rfl _ _ r7 hu rfl hiy ?_))
    have HVb : Hid _ := HV5.out.fr0 (by (repeat (first | exact Fr.refl _ _ | assumption | refine Fr.drewNr ?_ _ | refine Fr.drewr ?_ | refine Fr.allocr ?_ _ | refine Fr.setCellr ?_ _ _ (by first | exact Or.inl rfl | (right; simp; done) | (right; simp; omega)))) : Fr (fun _ => False) w5 (w5.alloc (.cells (sxC y).toArray 81)))
    have HTb : Hid _ := HTx5.out.fr0 (by (repeat (first | exact Fr.refl _ _ | assumption | refine Fr.drewNr ?_ _ | refine Fr.drewr ?_ | refine Fr.allocr ?_ _ | refine Fr.setCellr ?_ _ _ (by first | exact Or.inl rfl | (right; simp; done) | (right; simp; omega)))) : Fr (fun _ => False) w5 (w5.alloc (.cells (sxC y).toArray 81)))
    have HFb : Hid _ := HF5.out.thenr (by (repeat (first | exact Fr.refl _ _ | assumption | refine Fr.drewNr ?_ _ | refine Fr.drewr ?_ | refine Fr.allocr ?_ _ | refine Fr.setCellr ?_ _ _ (by first | exact Or.inl rfl | (right; simp; done) | (right; simp; omega)))) : Fr (fun _ => False) w5 (w5.alloc (.cells (sxC y).toArray 81))) (fun _ _ h => h.elim)
    clear ry r7 HV5 HTx5 HF5
    generalize w5.alloc (.cells (sxC y).toArray 81) = w6 at *
    refine (giveNumber_any w6 b st v2 v3 th es _ _ _ vR L rows HVb.out y HYO.out (by omega)).mono ?_
    rintro e w7 ⟨rfl, vS7, hV7, hf7, hn7⟩
    have HV7 : Hid _ := hV7
    have HTx7 : Hid _ := HTb.out.other hf7 hn7
    have HF7 : Hid (Fr (fun k => b ≤ k) w w7) := HFb.out.thenr hf7 (fun k _ ho => by
     rcases ho with e | e
     ·omega
     ·exact Nat.le_of_lt (HVb.out.bS k e))
    have HT7 : Hid (T w7) := HI.out.keep w w7 _ HT.out HF7.out (fun k hk => Nat.le_trans HHB.out hk)
    have hnu := nuS_le L y
    clear hV7 hf7 hn7 HVb HTb HFb
    go_wp2_with fail
    refine (HI.out.call w7 (nuS L y) HT7.out (by omega)).mono ?_
    rintro e w8 ⟨rfl, hf8⟩
    have HV8 : Hid _ := HV7.out.fr0 hf8
    have HTx8 : Hid _ := HTx7.out.fr0 hf8
    have HF8 : Hid _ := HF7.out.thenr hf8 (fun _ _ h => h.elim)
    have hdl := decD_len (n := nuS L y) (by omega)
    obtain ⟨D, hD⟩ : ∃ D : ByteArray, (⟨(Lib.decDigits (nuS L y)).toArray⟩ : ByteArray) = D := ⟨_, rfl⟩
    have HDL : Hid (D.data.toList = Lib.decDigits (nuS L y)) := by show _ = _; rw [← hD]
    have hds : D.size ≤ 6 := by have : D.size = D.data.toList.length := rfl; rw [this, HDL.out]; exact hdl
    rw [hD]
    clear hD hf8 HV7 HTx7 HF7 HT7 hnu
    have hr8 := HTx8.out.r
    have hb8 := Blk.lt HV8.out.py.blk
    obtain ⟨t3, ht3⟩ : ∃ t3, t2 ++ Lib.decDigits (nuS L y) = t3 := ⟨_, rfl⟩
    obtain ⟨t4, ht4⟩ : ∃ t4, t3 ++ [58] = t4 := ⟨_, rfl⟩
    have hl9 : t3.length ≤ 5732700 := by rw [← ht3, List.length_append]; omega
    have hl10 : t4.length ≤ 5732701 := by rw [← ht4, List.length_append]; simp only [List.length_cons, List.length_nil]; omega
    rw [ht3, ht4] at HNX
    have HT3 : Hid (t2 ++ Lib.decDigits (nuS L y) = t3) := ht3
    have HT4 : Hid (t3 ++ [58] = t4) := ht4
    clear ht3 ht4
    have hone8 : ∀ u ∈ byV q.out, u.oneCell' = true := by intro u hu; simp only [byV, List.mem_map] at hu; obtain ⟨_, _, rfl⟩ := hu; rfl
    obtain ⟨ht8, ⟨i8, z8, hi8, -, -, -, -⟩, -⟩ := elemU8
    rcases HV8.out.py.ro.2 with ⟨hnil, hz⟩ | ⟨g0, cap0, cur0, hv0, -⟩
    ·have HQE : Hid (q.out = []) := List.length_eq_zero_iff.1 hz
     subst hnil
     clear hz hone8
     go_wp2_with (first | (at_builtin; refine wpList_appendS rfl _ _ _ _ rfl (b + 1) _ elemU8 zeroU8 Tryz.underlying9 _ t2.length (byV t2) rfl hr8 D rfl (by omega) (by omega) ?_; intro ra rc w9 hrow9 hgrow9 hold9; obtain ⟨hTx9, hV9, hf9⟩ := HTx8.out.push HV8.out (m := Lib.decDigits (nuS L y)) (by rw [← (app_len HDL.out).1, ← (app_len HDL.out).2]; exact hrow9) hgrow9 hold9; rw [HT3.out] at hTx9; have HV9 : Hid _ := hV9.fr0 (Fr.alloc (fun _ => False) w9 (.cells #[.int .u8 58] 5)); have HTx9 : Hid _ := hTx9.fr0 (Fr.alloc (fun _ => False) w9 (.cells #[.int .u8 58] 5)); have HF9 : Hid _ := (HF8.out.thenr hf9 (fun k _ e => Nat.le_of_lt e)).thenr (Fr.alloc (fun _ => False) w9 (.cells #[.int .u8 58] 5)) (fun _ _ h => h.elim); have hr9 := HTx9.out.r; have hb9 := Blk.lt hV9.py.blk; clear hrow9 hgrow9 hold9 hTx9 hV9 hf9 hr8) | (at_builtin; refine wpList_appendP rfl _ _ _ rfl (b + 1) _ elemU8 _ t3.length (byV t3) rfl hr9 ⟨w9.heap.size, 0, none⟩ 1 1 [.int .u8 58] rfl rfl (by exact cells_new (Blk.new _ _ _)) (by intro u hu; simp at hu; subst hu; rfl) (by omega) (by simp; omega) ?_; intro rb rd w10 hrow10 hgrow10 hold10; obtain ⟨hTx10, hV10, hf10⟩ := HTx9.out.push HV9.out (m := [58]) (by rw [List.length_append (bs := [58]), ← app_byV t3 [58]]; exact hrow10) hgrow10 hold10; rw [HT4.out] at hTx10; have HV10 : Hid _ := hV10; have HTx10 : Hid _ := hTx10; have HF10 : Hid _ := HF9.out.thenr hf10 (fun k _ e => Nat.le_of_lt e); have hr10 := hTx10.r; have c10 := hV10.py.co; have hb10 := Blk.lt hV10.py.blk; clear hrow10 hgrow10 hold10 hTx10 hV10 hf10 hr9) | (at_builtin; refine wpList_append_own_none rfl _ _ _ rfl (b + 1) 5 i8 1 ht8 hi8 _ t4.length (byV t4) rfl hr10 rfl ?_))
     go_roundg (es.size - (k + 1))
     case measure => omega
     case rel => exact ⟨k + 1, q, _, vS7, by omega, by go_num, (by show CoV _ _ _ _ _ _ _ _ _ _ _ _ _; rw [HNX.out]; exact HV10.out), (by show TxV _ _ _ _ _ _ _; rw [HNX.out, HQE.out]; simp only [List.append_nil]; exact HTx10.out), HF10, Nat.le_refl _⟩
    ·subst hv0
     go_wp2_with (first | (at_builtin; refine wpList_appendS rfl _ _ _ _ rfl (b + 1) _ elemU8 zeroU8 Tryz.underlying9 _ t2.length (byV t2) rfl hr8 D rfl (by omega) (by omega) ?_; intro ra rc w9 hrow9 hgrow9 hold9; obtain ⟨hTx9, hV9, hf9⟩ := HTx8.out.push HV8.out (m := Lib.decDigits (nuS L y)) (by rw [← (app_len HDL.out).1, ← (app_len HDL.out).2]; exact hrow9) hgrow9 hold9; rw [HT3.out] at hTx9; have HV9 : Hid _ := hV9.fr0 (Fr.alloc (fun _ => False) w9 (.cells #[.int .u8 58] 5)); have HTx9 : Hid _ := hTx9.fr0 (Fr.alloc (fun _ => False) w9 (.cells #[.int .u8 58] 5)); have HF9 : Hid _ := (HF8.out.thenr hf9 (fun k _ e => Nat.le_of_lt e)).thenr (Fr.alloc (fun _ => False) w9 (.cells #[.int .u8 58] 5)) (fun _ _ h => h.elim); have hr9 := HTx9.out.r; have hb9 := Blk.lt hV9.py.blk; clear hrow9 hgrow9 hold9 hTx9 hV9 hf9 hr8) | (at_builtin; refine wpList_appendP rfl _ _ _ rfl (b + 1) _ elemU8 _ t3.length (byV t3) rfl hr9 ⟨w9.heap.size, 0, none⟩ 1 1 [.int .u8 58] rfl rfl (by exact cells_new (Blk.new _ _ _)) (by intro u hu; simp at hu; subst hu; rfl) (by omega) (by simp; omega) ?_; intro rb rd w10 hrow10 hgrow10 hold10; obtain ⟨hTx10, hV10, hf10⟩ := HTx9.out.push HV9.out (m := [58]) (by rw [List.length_append (bs := [58]), ← app_byV t3 [58]]; exact hrow10) hgrow10 hold10; rw [HT4.out] at hTx10; have HV10 : Hid _ := hV10; have HTx10 : Hid _ := hTx10; have HF10 : Hid _ := HF9.out.thenr hf10 (fun k _ e => Nat.le_of_lt e); have hr10 := hTx10.r; have c10 := hV10.py.co; have hb10 := Blk.lt hV10.py.blk; clear hrow10 hgrow10 hold10 hTx10 hV10 hf10 hr9) | (at_builtin; refine wpList_appendP rfl _ _ _ rfl (b + 1) _ elemU8 _ t4.length (byV t4) rfl hr10 ⟨g0, 0, none⟩ q.out.length cap0 (byV q.out) rfl (by simp [byV]) (HV10.out.py.ro.cells (g := g0) rfl) hone8 (by omega) (by omega) ?_; intro rf rh w11 hrow11 hgrow11 hold11; obtain ⟨hTx11, hV11, hf11⟩ := HTx10.out.push HV10.out (m := q.out) (by rw [List.length_append (bs := q.out), ← app_byV t4 q.out]; exact hrow11) hgrow11 hold11; have HV11 : Hid _ := hV11; have HTx11 : Hid _ := hTx11; have HF11 : Hid _ := HF10.out.thenr hf11 (fun k _ e => Nat.le_of_lt e); clear hrow11 hgrow11 hold11 hTx11 hV11 hf11))
     go_roundg (es.size - (k + 1))
     case measure => omega
     case rel => exact ⟨k + 1, q, _, vS7, by omega, by go_num, (by show CoV _ _ _ _ _ _ _ _ _ _ _ _ _; rw [HNX.out]; exact HV11.out), (by show TxV _ _ _ _ _ _ _; rw [HNX.out]; exact HTx11.out), HF11, Nat.le_refl _⟩
  ·have hkn : k = es.size := by omega
   have HE : Hid ((ceK st th es x l es.size) = ceK st th es x l k) := by show _ = _; rw [hkn]
   clear hkn
   have hcv := conv_row HTx.out.r
   obtain ⟨ta, tc, hvt⟩ := row_lenB HTx.out.r
   subst hvt
   have c5 := HV.out.c5
   obtain ⟨E, hE⟩ : ∃ E : ByteArray, (⟨(ceK st th es x l k).2.toArray⟩ : ByteArray) = E := ⟨_, rfl⟩
   rw [hE] at hcv
   have HEE : Hid ((⟨(ceK st th es x l k).2.toArray⟩ : ByteArray) = E) := hE
   clear hE
   go_wp2_with fail
   go_ret
   refine ⟨?_, HF.out, pk, vok, vSk, ?_⟩
   ·rw [HE.out, HEE.out]; rfl
   ·rw [HE.out]; exact HV.out
end Go.Proofs.YtmolmbeeoecnfaaGreatDoor
