/- Own work: CoW1, CoW2. -/
import Derived.Test.YtmolmbeeoecnfaaGreatDoorF19
/- Own work: walks of the compiler: hasEvent, events, firstAlike. -/
namespace Go.Proofs.YtmolmbeeoecnfaaGreatDoor
open Go.RowKit Go.BigFrame
set_option linter.unusedVariables false
set_option linter.unusedSimpArgs false

def evB (th : List TrH) (ev : UInt8) (j : Nat) : Bool := match th[j]? with | some x => x.q.event == ev | none => false
def hasE (th : List TrH) (ev : UInt8) : Bool := (firstB (evB th ev) th.length).isSome

set_option maxRecDepth 100000 in
set_option maxHeartbeats 1000000 in
theorem hasEvent_any (w : World) (st : List StP) (ws : Wp) (ev : UInt8) (hp : PlR w st ws) (hl : ws.th.length ≤ 1000000) :
    Calls Tryz.prog 42 #[.agg #[ws.v2, ws.v3], .int .u8 ev.toNat] w fun e w' => e = .returned (.bool (hasE ws.th ev)) ∧ Fr (fun _ => False) w w' := by
  obtain ⟨va, vc, hv⟩ := row_len hp.r3
  have HV : Hid (ws.v3 = .slice va ws.th.length vc) := hv
  have HP : Hid (PlR w st ws) := hp
  rw [hv]
  clear hv hp
  go_enter Tryz.func42, Tryz.ntmps42
  go_wp2_with fail
  go_loopw [10] (fun i wr => ∃ k : Nat, k ≤ ws.th.length ∧ i = .int .i64 k ∧ Hid (∀ j, j < k → evB ws.th ev j = false) ∧ Fr (fun _ => False) w wr) (fun i _ => ws.th.length - (intOf i).toNat)
  case atStart => exact ⟨0, Nat.zero_le _, rfl, fun j hj => by omega, by (repeat (first | exact Fr.refl _ _ | assumption | refine Fr.drewNr ?_ _ | refine Fr.drewr ?_ | refine Fr.allocr ?_ _ | refine Fr.setCellr ?_ _ _ (by first | exact Or.inl rfl | (right; simp; done) | (right; simp; omega))))⟩
  case round =>
    obtain ⟨k, hk, rfl, HJ, hfr⟩ := hrel
    by_cases hlt : (k : Int) < ws.th.length
    · have hlt' : k < ws.th.length := by omega
      have hpr := HP.out.fr0 hfr
      obtain ⟨gg, cc, hv3, hcc⟩ := row_form hpr.r3 (by omega)
      have hvv := HV.out.symm.trans hv3
      injection hvv with q1 q2 q3
      subst q1
      subst q3
      clear q2
      obtain ⟨x, hx⟩ : ∃ x, ws.th[k]? = some x := ⟨_, List.getElem?_eq_getElem hlt'⟩
      have hr := hpr.r3
      rw [hv3] at hr
      obtain ⟨x0, x1, x2, x3, x4, x5, x6, x7, x8⟩ := tr9 hr hx
      have hxm := List.mem_of_getElem? hx
      have HF : Hid (evB ws.th ev k = (x.q.event == ev)) := by show _ = _; simp [evB, hx]
      obtain ⟨ca, ck, hcv⟩ := row_len (hpr.rc x hxm)
      rw [hcv] at x2
      have HI : Hid (evB ws.th ev k = true → hasE ws.th ev = true) := fun h => by
        unfold hasE
        rw [firstB_some (evB ws.th ev) k h HJ.out _ hlt']; rfl
      clear hr hv3 hx hxm hpr hcv
      by_cases e : x.q.event = ev
      · have HI2 : Hid (hasE ws.th ev = true) := HI.out (by rw [HF.out]; simp [e])
        have e' : ((x.q.event.toNat : Int) == ev.toNat) = true := by simp [e]
        clear e HF HI
        go_wp2_with fail
        go_ret
        exact ⟨ret_b HI2.out.symm, by (repeat (first | exact Fr.refl _ _ | assumption | refine Fr.drewNr ?_ _ | refine Fr.drewr ?_ | refine Fr.allocr ?_ _ | refine Fr.setCellr ?_ _ _ (by first | exact Or.inl rfl | (right; simp; done) | (right; simp; omega))))⟩
      · have HB : Hid (evB ws.th ev k = false) := by show _ = _; rw [HF.out]; simp [e]
        have hne : ((x.q.event.toNat : Int) == ev.toNat) = false := by
          rw [beq_eq_false_iff_ne]; intro h; exact e (UInt8.toNat_inj.1 (by omega))
        clear e HF HI
        go_wp2_with fail
        go_roundw
        case rel => exact ⟨k + 1, by omega, by go_num, below_step HJ.out HB.out, hfr.allocr _⟩
        case measure => simp [intOf]; omega
    · have HI : Hid (hasE ws.th ev = false) := by
        show _ = _
        unfold hasE
        rw [firstB_none (evB ws.th ev) ws.th.length (fun j hj => HJ.out j (by omega))]; rfl
      go_wp2_with fail
      go_ret
      exact ⟨ret_b HI.out.symm, hfr⟩

def evP (th : List TrH) : Nat → List UInt8
 | 0 => []
 | k + 1 => if hasE th (UInt8.ofNat (97 + k)) = true then evP th k ++ [UInt8.ofNat (97 + k)] else evP th k
theorem evP_len (th : List TrH) : ∀ k, (evP th k).length ≤ k
 | 0 => Nat.le_refl _
 | k + 1 => by
  have := evP_len th k
  rw [evP]; split
  ·simp; omega
  ·omega

set_option maxRecDepth 100000 in
set_option maxHeartbeats 1000000 in
theorem pevents_any (w : World) (st : List StP) (ws : Wp) (hp : PlR w st ws) (hl : ws.th.length ≤ 1000000) :
  Calls Tryz.prog 29 #[.agg #[ws.v2, ws.v3]] w fun e w' => e = .returned (.string ⟨(evP ws.th 26).toArray⟩) ∧ Fr (fun _ => False) w w' := by
 obtain ⟨va, vc, hv⟩ := row_len hp.r2
 obtain ⟨vb, vd, hv3⟩ := row_len hp.r3
 have HV : Hid (ws.v2 = .slice va st.length vc ∧ ws.v3 = .slice vb ws.th.length vd) := ⟨hv, hv3⟩
 have HP : Hid (PlR w st ws) := hp
 rw [hv, hv3]
 have HB0 : Hid (Blk ((w.alloc (.cells #[.slice va st.length vc, .slice vb ws.th.length vd] 39)).alloc (.cells #[] 5)) w.heap.size #[.slice va st.length vc, .slice vb ws.th.length vd] 39) := Blk.alloc (Blk.new _ _ _) _
 have HF0 : Hid (Fr (fun _ => False) w ((w.alloc (.cells #[.slice va st.length vc, .slice vb ws.th.length vd] 39)).alloc (.cells #[] 5))) := ((Fr.refl _ _).allocr _).allocr _
 have HR0 : Hid (World.ownsRow ((w.alloc (.cells #[.slice va st.length vc, .slice vb ws.th.length vd] 39)).alloc (.cells #[] 5)) 0 5 1 (.slice (some ⟨(w.alloc (.cells #[.slice va st.length vc, .slice vb ws.th.length vd] 39)).heap.size, 0, none⟩) 0 0) 0 []) := row_none _ _ 1
 clear hp hv hv3
 go_enter Tryz.func29, Tryz.ntmps29
 go_wp2_with fail
 have hb0 := HB0.out
 have hf0 := HF0.out
 have hr0 := HR0.out
 have hs1 : (w.alloc (.cells #[.slice va st.length vc, .slice vb ws.th.length vd] 39)).heap.size = w.heap.size + 1 := by simp
 rw [hs1] at hr0
 clear HB0 HF0 HR0 hs1
 generalize ((w.alloc (.cells #[.slice va st.length vc, .slice vb ws.th.length vd] 39)).alloc (.cells #[] 5)) = W at *
 go_loopw [3, 4] (fun vv vi wr => ∃ (k : Nat) (c : UInt8) (cv : Value), k ≤ 26 ∧ vi = .int .u8 c.toNat ∧ c.toNat = 97 + k ∧ vv = cv ∧ wr.ownsRow 0 5 1 cv (evP ws.th k).length (byV (evP ws.th k)) ∧ Blk wr w.heap.size #[.slice va st.length vc, .slice vb ws.th.length vd] 39 ∧ (∀ j, cv.ownBlock = some j → w.heap.size + 1 ≤ j) ∧ Fr (fun _ => False) w wr) (fun _ vi _ => 123 - (intOf vi).toNat)
 case atStart => exact ⟨0, 97, _, Nat.zero_le _, rfl, rfl, rfl, hr0, hb0, fun j hj => by simp [Value.ownBlock] at hj; omega, hf0⟩
 case round =>
  obtain ⟨k, c, cv, hk, rfl, hc, rfl, hrow, hbq, hown, hfr⟩ := hrel
  by_cases hlt : (c.toNat : Int) ≤ 122
  ·have hcc : UInt8.ofNat (97 + k) = c := UInt8.toNat_inj.1 (by rw [UInt8.toNat_ofNat', Nat.mod_eq_of_lt (by omega)]; omega)
   have HS : Hid (evP ws.th (k + 1) = if hasE ws.th c = true then evP ws.th k ++ [c] else evP ws.th k) := by show _ = _; rw [evP, hcc]
   have hpr := HP.out.fr0 hfr
   have HC := hasEvent_any wr st ws c hpr hl
   rw [HV.out.1, HV.out.2] at HC
   have HCC : Hid _ := HC
   have hnl := evP_len ws.th k
   obtain ⟨acc, hacc⟩ : ∃ acc, evP ws.th k = acc := ⟨_, rfl⟩
   rw [hacc] at hrow HS hnl
   obtain ⟨p0, p1⟩ : wr.cell? ⟨w.heap.size, 0, none⟩ = some (.slice va st.length vc) ∧ wr.cell? ⟨w.heap.size, 1, none⟩ = some (.slice vb ws.th.length vd) := by
    refine ⟨?_, ?_⟩ <;> (rw [Blk.cell hbq]; rfl)
   obtain ⟨c', hc'⟩ : ∃ c' : UInt8, c'.toNat = c.toNat + 1 := ⟨UInt8.ofNat (c.toNat + 1), by rw [UInt8.toNat_ofNat', Nat.mod_eq_of_lt (by omega)]⟩
   have HC' : Hid (c'.toNat = c.toNat + 1) := hc'
   have HCN : Hid (c.toNat = 97 + k) := hc
   have hk25 : k < 26 := by omega
   clear hc' hcc HC hacc hpr hc
   obtain ⟨ra, rk, hcv⟩ := row_len hrow
   subst hcv
   go_wp2_with fail
   refine Calls.mono HCC.out ?_
   rintro e w2 ⟨rfl, hf2⟩
   have hrow2 := row_fr hrow hf2 (fun _ _ h => h)
   have hbq2 := Blk.fr hbq hf2 (fun h => h)
   have hfr2 := hfr.thenr hf2 (fun _ _ h => h)
   have hbl := Blk.lt hbq2
   clear p0 p1 HCC hrow hbq
   cases hm : hasE ws.th c with
   | false =>
    have HS2 : Hid (evP ws.th (k + 1) = acc) := by show _ = _; rw [HS.out, if_neg (by simp [hm])]
    clear HS
    go_wp2_with fail
    go_roundw
    case rel => exact ⟨k + 1, c', _, by omega, by rw [HC'.out]; go_num, by rw [HC'.out, HCN.out]; omega, rfl, by rw [HS2.out]; exact hrow2, hbq2, hown, hfr2⟩
    case measure => simp [intOf]; omega
   | true =>
    have HS2 : Hid (evP ws.th (k + 1) = acc ++ [c]) := by show _ = _; rw [HS.out, if_pos hm]
    clear HS
    have hrow3 := row_fr hrow2 (Fr.alloc (fun _ => False) w2 (.cells #[.int .u8 c.toNat] 5)) (fun _ _ h => h)
    clear hrow2
    go_wp2_with (at_builtin; go_must (refine wpList_append1 rfl _ _ _ rfl _ 1 1 elemU8 _ acc.length (byV acc) rfl hrow3 ⟨w2.heap.size, 0, none⟩ 1 [.int .u8 (c.toNat : Int)] rfl rfl (by exact cells_new (Blk.new' _ _ _ _ (by simp))) (by intro u hu; simp at hu; subst hu; rfl) (by unfold maxLen; omega) (by omega) ?_); intro g cap w8 hrow8 hgrow hgo)
    go_roundw
    case rel =>
     have f8 : Fr (fun j => (Value.slice ra acc.length rk).ownBlock = some j) _ w8 := Fr.grown _ hgrow (fun _ e => e)
     have hfr8 : Fr (fun _ => False) w w8 := (hfr2.allocr _).trans f8 (fun _ _ h => h) (fun i hi e => by have := hown i e; omega)
     refine ⟨k + 1, c', _, by omega, by rw [HC'.out]; go_num, by rw [HC'.out, HCN.out]; omega, rfl, ?_, ?_, ?_, hfr8⟩
     ·rw [HS2.out]; simpa [byV] using hrow8
     ·exact Blk.fr (Blk.alloc hbq2 _) f8 (fun e => by have := hown _ e; omega)
     ·intro j hj
      simp only [Value.ownBlock, Option.some.injEq] at hj
      subst hj
      rcases hgo with h | h
      ·exact hown _ h
      ·simp at h; omega
    case measure => simp [intOf]; omega
  ·have hkn : k = 26 := by omega
   subst hkn
   have hcv := conv_row hrow
   obtain ⟨ra, rk, hq⟩ := row_len hrow
   subst hq
   clear hrow
   obtain ⟨E, hE⟩ : ∃ E : ByteArray, (⟨(evP ws.th 26).toArray⟩ : ByteArray) = E := ⟨_, rfl⟩
   rw [hE] at hcv
   have HE : Hid ((⟨(evP ws.th 26).toArray⟩ : ByteArray) = E) := hE
   clear hE
   go_wp2_with fail
   go_ret
   exact ⟨by rw [HE.out]; rfl, hfr⟩

section
variable {w : World} {b : Nat} {st : List StP} {ws : Wp} {p : Py} {vo : Value}
theorem PyV.ctl (h : PyV w b st ws p vo) (k : Nat) : w.cell? ⟨b, 705 + k, none⟩ = ws.tl[k]? := by
 rw [Blk.cell h.blk]
 have e : 705 + k - [ws.v2, ws.v3].length - (bV p.act).length - (mmC p.mm).length = k + 1 := by
  rw [bV_len, h.ok.la, mmC_len p.mm h.ok.le, h.ok.lm]; simp; omega
 have h1 : (pyC ws p vo)[705 + k]? = ws.tl[k]? := by
  rw [pyC, List.getElem?_append_right (by simp; omega), List.getElem?_append_right (by simp [bV_len, h.ok.la]; omega), List.getElem?_append_right (by simp [bV_len, h.ok.la, mmC_len p.mm h.ok.le, h.ok.lm]; omega), e]
  rfl
 simpa using h1
theorem pyC_setTl (ho : PyOk p) (k : Nat) (v : Value) : (pyC ws p vo).toArray.setIfInBounds (705 + k) v = (pyC { ws with tl := ws.tl.set k v } p vo).toArray := by
 have h1 : (pyC ws p vo) = ([ws.v2, ws.v3] ++ (bV p.act ++ mmC p.mm)) ++ (vo :: ws.tl) := by simp [pyC]
 have h2 : (pyC { ws with tl := ws.tl.set k v } p vo) = ([ws.v2, ws.v3] ++ (bV p.act ++ mmC p.mm)) ++ (vo :: ws.tl.set k v) := by simp [pyC]
 have hl : ([ws.v2, ws.v3] ++ (bV p.act ++ mmC p.mm)).length = 704 := by simp [bV_len, mmC_len p.mm ho.le, ho.la, ho.lm]
 apply Array.toList_inj.1
 rw [Array.toList_setIfInBounds, h1, h2]
 simp only [List.toList_toArray]
 rw [List.set_append_right _ _ (by omega), hl, show 705 + k - 704 = k + 1 by omega]
 rfl
theorem PyV.setTl (h : PyV w b st ws p vo) (k : Nat) (v : Value) : PyV (w.setCell ⟨b, 705 + k, none⟩ v) b st { ws with tl := ws.tl.set k v } p vo where
 blk := by
  rw [← pyC_setTl h.ok]
  exact Blk.set h.blk (705 + k) _
 pl := by
  have h1 := h.pl.fr (Fr.setCell (· = b) _ ⟨b, 705 + k, none⟩ v rfl) (fun k hk e => by have := h.np k hk; omega)
  exact ⟨h1.r2, h1.r3, h1.rc⟩
 ro := row_frB h.ro (Fr.setCell (· = b) _ ⟨b, 705 + k, none⟩ _ rfl) (fun k hk e => by have := (h.roB k hk).1; omega)
 np := h.np
 ok := h.ok
end
structure CoV (w : World) (b : Nat) (st : List StP) (v2 v3 : Value) (th : List TrH) (es : ByteArray) (p : Py) (vo vS vR : Value) (l : List Sx) (rows : List ByteArray) : Prop where
 py : PyV w b st ⟨v2, v3, th, [.string es, vS, vR], 87⟩ p vo
 rS : w.ownsRow 0 81 702 vS l.length (l.flatMap sxC)
 rR : w.ownsRow 0 9 1 vR rows.length (rows.map Value.string)
 bS : ∀ k, vS.ownBlock = some k → b < k
 bR : ∀ k, vR.ownBlock = some k → b < k
 dS : ∀ k, vS.ownBlock = some k → vo.ownBlock ≠ some k ∧ vR.ownBlock ≠ some k
 dR : ∀ k, vR.ownBlock = some k → vo.ownBlock ≠ some k
 lo : ∀ x ∈ l, SxOk x
section
variable {w : World} {b : Nat} {st : List StP} {v2 v3 : Value} {th : List TrH} {es : ByteArray} {p : Py} {vo vS vR : Value} {l : List Sx} {rows : List ByteArray}
theorem CoV.c5 (h : CoV w b st v2 v3 th es p vo vS vR l rows) : w.cell? ⟨b, 705, none⟩ = some (.string es) := h.py.ctl 0
theorem CoV.c6 (h : CoV w b st v2 v3 th es p vo vS vR l rows) : w.cell? ⟨b, 706, none⟩ = some vS := h.py.ctl 1
theorem CoV.c7 (h : CoV w b st v2 v3 th es p vo vS vR l rows) : w.cell? ⟨b, 707, none⟩ = some vR := h.py.ctl 2
theorem CoV.fr0 {w' : World} (h : CoV w b st v2 v3 th es p vo vS vR l rows) (f : Fr (fun _ => False) w w') : CoV w' b st v2 v3 th es p vo vS vR l rows :=
 ⟨h.py.fr0 f, row_fr h.rS f (fun _ _ h => h), row_fr h.rR f (fun _ _ h => h), h.bS, h.bR, h.dS, h.dR, h.lo⟩
end

def eqR (rows : List ByteArray) (x : ByteArray) (k : Nat) : Bool := match rows[k]? with | some y => y.toList == x.toList | none => false
def fiR (rows : List ByteArray) (x : ByteArray) : Nat := (firstB (eqR rows x) rows.length).getD rows.length

set_option maxRecDepth 100000 in
set_option maxHeartbeats 1000000 in
theorem firstAlike_any (w : World) (b : Nat) (vR : Value) (rows : List ByteArray) (x : ByteArray) (hc : w.cell? ⟨b, 707, none⟩ = some vR) (hr : w.ownsRow 0 9 1 vR rows.length (rows.map Value.string)) (hl : rows.length ≤ 1000000) :
    Calls Tryz.prog 47 #[.pointer (some ⟨b, 0, none⟩), .string x] w fun e w' => e = .returned (.int .i64 (fiR rows x)) ∧ Fr (fun _ => False) w w' := by
  obtain ⟨ra, rc, hv⟩ := row_len hr
  subst hv
  have HR : Hid _ := hr
  have HC : Hid (∀ w', Fr (fun _ => False) w w' → w'.cell? ⟨b, 707, none⟩ = some (.slice ra rows.length rc)) := fun w' f => by
    rw [World.cell?_of_block (f.block b (World.block_lt_of_cell? _ _ hc) (fun h => h))]; exact hc
  clear hr
  go_enter Tryz.func47, Tryz.ntmps47
  go_wp2_with fail
  clear hc
  go_loopw [12] (fun vi wr => ∃ k : Nat, k ≤ rows.length ∧ vi = .int .i64 k ∧ Hid (∀ j, j < k → eqR rows x j = false) ∧ Fr (fun _ => False) w wr) (fun vi _ => rows.length - (intOf vi).toNat)
  case atStart => exact ⟨0, Nat.zero_le _, rfl, fun j hj => (by omega), Fr.refl _ _⟩
  case round =>
    obtain ⟨k, hk, rfl, HJ, hfr⟩ := hrel
    by_cases hlt : (k : Int) < rows.length
    · have hlt' : k < rows.length := by omega
      have hrr := row_fr HR.out hfr (fun _ _ h => h)
      obtain ⟨gg, cc, hv3, hcc⟩ := row_form hrr (by omega)
      injection hv3 with q1 q2 q3
      subst q1
      subst q3
      clear q2
      obtain ⟨y, hy⟩ : ∃ y, rows[k]? = some y := ⟨_, List.getElem?_eq_getElem hlt'⟩
      have y0 := (row_cell hrr k (.string y) (by rw [List.getElem?_map, hy]; rfl)).1
      have HE : Hid (eqR rows x k = (y.toList == x.toList)) := by show _ = _; simp [eqR, hy]
      have HI : Hid (eqR rows x k = true → fiR rows x = k) := fun h => by
        unfold fiR
        rw [firstB_some (eqR rows x) k h HJ.out _ hlt']; rfl
      clear hrr hy
      cases e : (y.toList == x.toList) with
      | true =>
        have HI2 : Hid (fiR rows x = k) := HI.out (by rw [HE.out]; exact e)
        clear HI HE
        go_wp2_with fail
        go_ret
        exact ⟨by rw [HI2.out]; rfl, hfr⟩
      | false =>
        have HB : Hid (eqR rows x k = false) := by show _ = _; rw [HE.out]; exact e
        clear HI HE
        go_wp2_with fail
        go_roundw
        case rel => exact ⟨k + 1, by omega, by go_num, below_step HJ.out HB.out, hfr⟩
        case measure => simp [intOf]; omega
    · have HI : Hid (fiR rows x = rows.length) := by
        show _ = _
        unfold fiR
        rw [firstB_none (eqR rows x) rows.length (fun j hj => HJ.out j (by omega))]; rfl
      have c7 := HC.out wr hfr
      go_wp2_with fail
      go_ret
      exact ⟨by rw [HI.out]; rfl, hfr⟩
end Go.Proofs.YtmolmbeeoecnfaaGreatDoor
