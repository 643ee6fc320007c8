/- Own work: PyZ4. -/
import Derived.Test.YtmolmbeeoecnfaaGreatDoorF16
/- Own work: walks of the player: enter, ahead of it the plain side. -/
namespace Go.Proofs.YtmolmbeeoecnfaaGreatDoor
open Go.RowKit Go.BigFrame
set_option linter.unusedVariables false
set_option linter.unusedSimpArgs false

def itF (g : Nat → Py → Py) : Nat → Nat → Py → Py
 | 0, _, p => p
 | n + 1, i, p => itF g n (i + 1) (g i p)
def enF (st : List StP) : Nat → Nat → Am → Py → Py
 | 0, _, _, p => p
 | f + 1, s, a, p => match st[s]? with
  | none => p
  | some x =>
   if x.kind = 2 then itF (fun i q => if outAt st i = (s : Int) then enF st f i a q else q) (x.end_ - (s + 1)) (s + 1) { p with act := p.act.set s true, out := p.out ++ bls x.enter }
   else if x.kind = 1 then enF st f (chP st p.mm s a).1 (chP st p.mm s a).2 { p with act := p.act.set s true, out := p.out ++ bls x.enter }
   else { p with act := p.act.set s true, out := p.out ++ bls x.enter }
theorem enF_and {st : List StP} {s : Nat} {x : StP} (h : st[s]? = some x) (hk : x.kind = 2) (f : Nat) (a : Am) (p : Py) : enF st (f + 1) s a p = itF (fun i q => if outAt st i = (s : Int) then enF st f i a q else q) (x.end_ - (s + 1)) (s + 1) { p with act := p.act.set s true, out := p.out ++ bls x.enter } := by
 rw [enF, h]; simp only; rw [if_pos hk]
theorem enF_or {st : List StP} {s : Nat} {x : StP} (h : st[s]? = some x) (hk : x.kind = 1) (f : Nat) (a : Am) (p : Py) : enF st (f + 1) s a p = enF st f (chP st p.mm s a).1 (chP st p.mm s a).2 { p with act := p.act.set s true, out := p.out ++ bls x.enter } := by
 rw [enF, h]; simp only; rw [if_neg (by rw [hk]; decide), if_pos hk]
theorem enF_leaf {st : List StP} {s : Nat} {x : StP} (h : st[s]? = some x) (h2 : x.kind ≠ 2) (h1 : x.kind ≠ 1) (f : Nat) (a : Am) (p : Py) : enF st (f + 1) s a p = { p with act := p.act.set s true, out := p.out ++ bls x.enter } := by
 rw [enF, h]; simp only; rw [if_neg h2, if_neg h1]

theorem inAm_in2 {st : List StP} (hw : Wf st) {s : Nat} {x : StP} (hx : st[s]? = some x) (hk : x.kind ≠ 0) (l : List Bool) : s < inAm st s l ∧ inAm st s l < st.length := by
 have h3 := hw.en s x hx
 have h4 := hw.inn s x hx hk
 unfold inAm
 rcases firstB_spec (inA st s l) (endAt st s) with ⟨h1, -⟩ | ⟨k, h1, h2, h5, -⟩
 ·rw [h1]; show s < s + 1 ∧ s + 1 < _; omega
 ·rw [h1]
  rw [endAt_at hx] at h2
  simp only [inA, Bool.and_eq_true, decide_eq_true_eq] at h5
  show s < k ∧ k < _
  omega
theorem inTo_in2 {st : List StP} (hw : Wf st) {s : Nat} {x : StP} (hx : st[s]? = some x) (hk : x.kind ≠ 0) (t : Nat) : s < inTo st s t ∧ inTo st s t < st.length := by
 have h3 := hw.en s x hx
 have h4 := hw.inn s x hx hk
 unfold inTo
 rcases firstB_spec (inT st s t) (endAt st s) with ⟨h1, -⟩ | ⟨k, h1, h2, h5, -⟩
 ·rw [h1]; show s < s + 1 ∧ s + 1 < _; omega
 ·rw [h1]
  rw [endAt_at hx] at h2
  simp only [inT, Bool.and_eq_true, decide_eq_true_eq] at h5
  show s < k ∧ k < _
  omega
theorem chP_ok {st : List StP} (hw : Wf st) {s : Nat} {x : StP} (hx : st[s]? = some x) (hk : x.kind ≠ 0) (mm : List (List Bool)) (a : Am) (ha : AmOk st a) : s < (chP st mm s a).1 ∧ (chP st mm s a).1 < st.length ∧ AmOk st (chP st mm s a).2 := by
 have h3 := hw.en s x hx
 have h4 := hw.inn s x hx hk
 have hf : AmOk st Am.free := by refine ⟨?_, ?_, ?_, ?_⟩ <;> simp only [Am.free] <;> omega
 have hs : AmOk st ⟨-1, 0, s⟩ := by refine ⟨?_, ?_, ?_, ?_⟩ <;> simp only <;> omega
 unfold chP
 split
 ·exact ⟨(inAm_in2 hw hx hk _).1, (inAm_in2 hw hx hk _).2, ha⟩
 ·split
  ·exact ⟨by show s < s + 1; omega, by show s + 1 < _; omega, hf⟩
  ·split
   ·exact ⟨(inTo_in2 hw hx hk _).1, (inTo_in2 hw hx hk _).2, ha⟩
   ·split
    ·exact ⟨by show s < s + 1; omega, by show s + 1 < _; omega, hf⟩
    ·split
     ·exact ⟨(inAm_in2 hw hx hk _).1, (inAm_in2 hw hx hk _).2, hs⟩
     ·exact ⟨(inAm_in2 hw hx hk _).1, (inAm_in2 hw hx hk _).2, hf⟩

def EnC (st : List StP) (ws : Wp) (b f : Nat) : Prop := ∀ (w : World) (p : Py) (vo : Value) (s : Nat) (a : Am), PyV w b st ws p vo → s < st.length → st.length - s ≤ f → AmOk st a → p.out.length + 160 * 2 ^ (25 - s) ≤ 70000000000000 →
  Calls Tryz.prog 43 #[.pointer (some ⟨b, 0, none⟩), .int .i64 s, .agg a.cells.toArray] w fun e w' => e = .returned (.tuple #[]) ∧ (enF st f s a p).out.length ≤ p.out.length + 160 * 2 ^ (25 - s) ∧ ∃ vo', PyV w' b st ws (enF st f s a p) vo' ∧ EvY b vo vo' w w'
theorem pow_half {i : Nat} (h : i ≤ 25) : 160 * 2 ^ (26 - i) = 160 * 2 ^ (25 - i) + 160 * 2 ^ (25 - i) := by
 rw [show 26 - i = (25 - i) + 1 by omega, Nat.pow_succ]; omega
theorem pow_mono {i j : Nat} (h : i ≤ j) : 2 ^ (25 - j) ≤ 2 ^ (25 - i) := Nat.pow_le_pow_right (by decide) (by omega)

set_option maxRecDepth 100000 in
set_option maxHeartbeats 1000000 in
theorem enter_step (st : List StP) (ws : Wp) (b f : Nat) (hwf : Wf st) (hsz : SzOk st) (hE : EnC st ws b f) : EnC st ws b (f + 1) := by
 intro w p vo s a hp hs hf ha hb
 obtain ⟨gg, cc, hv3, hcc, hgl⟩ := row_gg hp.pl (by omega)
 have hlen := hwf.len
 have hbl := Blk.lt hp.blk
 obtain ⟨x, hx⟩ : ∃ x, st[s]? = some x := ⟨_, List.getElem?_eq_getElem hs⟩
 have hxs := (hsz x (List.mem_of_getElem? hx)).1
 have hen := hwf.en s x hx
 have HC := chP_ok hwf hx
 obtain ⟨at_, am, ame⟩ := a
 have HA : Hid (AmOk st ⟨at_, am, ame⟩) := ha
 have HV : Hid (ws.v2 = .slice (some ⟨gg, 0, none⟩) st.length cc) := hv3
 have HWF : Hid (Wf st) := hwf
 have HSZ : Hid (SzOk st) := hsz
 have HX : Hid (st[s]? = some x) := hx
 have HEN : Hid (EnC st ws b f) := hE
 have HB : Hid (p.out.length + 160 * 2 ^ (25 - s) ≤ 70000000000000) := hb
 have hr := hp.pl.r2
 rw [hv3] at hr
 obtain ⟨x0, x1, x2, x3, x4, x5, x6, x7, x8, x9⟩ := st10 hr hx
 have c0 := hp.c0
 rw [hv3] at c0
 have hsl : (s : Int) < st.length := by omega
 show Calls Tryz.prog 43 #[.pointer (some ⟨b, 0, none⟩), .int .i64 s, .agg #[.int .i64 at_, .int .u8 am.toNat, .int .i64 ame]] w _
 have HNY : Hid (∀ k, w.heap.size ≤ k → ¬ OwnY b vo k) := by
  rintro k hk (h | h)
  ·omega
  ·have := (hp.roB _ h).2; omega
 have HP : Hid (PyV w b st ws p vo) := hp
 have HE2 : Hid (∀ (w : World) (p : Py) (vo : Value) (i : Nat), PyV w b st ws p vo → i < st.length → st.length - i ≤ f → p.out.length + 160 * 2 ^ (25 - i) ≤ 70000000000000 →
  Calls Tryz.prog 43 #[.pointer (some ⟨b, 0, none⟩), .int .i64 i, .agg #[.int .i64 at_, .int .u8 am.toNat, .int .i64 ame]] w fun e w' => e = .returned (.tuple #[]) ∧ (enF st f i ⟨at_, am, ame⟩ p).out.length ≤ p.out.length + 160 * 2 ^ (25 - i) ∧ ∃ vo', PyV w' b st ws (enF st f i ⟨at_, am, ame⟩ p) vo' ∧ EvY b vo vo' w w') := fun w p vo i h1 h2 h3 h4 => hE w p vo i ⟨at_, am, ame⟩ h1 h2 h3 ha h4
 have hpow : 1 ≤ 2 ^ (25 - s) := Nat.one_le_two_pow
 clear hp hwf hsz hx hE ha hv3 hr HC
 have HA0 : Hid (Blk ((w.alloc (.cells #[.int .i64 at_, .int .u8 am.toNat, .int .i64 ame] 128)).alloc (.cells #[.int .u8 x.name.toNat, .int .i64 x.place, .int .i64 x.depth, .int .i64 x.kind, .int .i64 x.outer, .int .i64 x.end_, .string x.enter, .string x.leave, .bool x.rem, .bool x.wh] 115)) w.heap.size #[.int .i64 at_, .int .u8 am.toNat, .int .i64 ame] 128) := Blk.alloc (Blk.new _ _ _) _
 have HS0 : Hid (Blk ((w.alloc (.cells #[.int .i64 at_, .int .u8 am.toNat, .int .i64 ame] 128)).alloc (.cells #[.int .u8 x.name.toNat, .int .i64 x.place, .int .i64 x.depth, .int .i64 x.kind, .int .i64 x.outer, .int .i64 x.end_, .string x.enter, .string x.leave, .bool x.rem, .bool x.wh] 115)) (w.heap.size + 1) #[.int .u8 x.name.toNat, .int .i64 x.place, .int .i64 x.depth, .int .i64 x.kind, .int .i64 x.outer, .int .i64 x.end_, .string x.enter, .string x.leave, .bool x.rem, .bool x.wh] 115) := Blk.new' _ _ _ _ (by simp)
 have HF0 : Hid (Fr (fun _ => False) w ((w.alloc (.cells #[.int .i64 at_, .int .u8 am.toNat, .int .i64 ame] 128)).alloc (.cells #[.int .u8 x.name.toNat, .int .i64 x.place, .int .i64 x.depth, .int .i64 x.kind, .int .i64 x.outer, .int .i64 x.end_, .string x.enter, .string x.leave, .bool x.rem, .bool x.wh] 115))) := ((Fr.refl _ _).allocr _).allocr _
 go_enter Tryz.func43, Tryz.ntmps43
 go_wp2_with fail
 have hA := HA0.out
 have hS := HS0.out
 have hfr := HF0.out
 clear HA0 HS0 HF0 x0 x1 x2 x3 x4 x5 x6 x7 x8 x9 c0
 generalize ((w.alloc (.cells #[.int .i64 at_, .int .u8 am.toNat, .int .i64 ame] 128)).alloc (.cells #[.int .u8 x.name.toNat, .int .i64 x.place, .int .i64 x.depth, .int .i64 x.kind, .int .i64 x.outer, .int .i64 x.end_, .string x.enter, .string x.leave, .bool x.rem, .bool x.wh] 115)) = W at hA hS hfr ⊢
 refine (put_any W b st ws p vo x.enter (HP.out.fr0 hfr) (by have := HB.out; omega)).mono ?_
 rintro e w2 ⟨rfl, vo2, hp2, he2⟩
 have he3 := ((EvY.of_fr0 hfr).trans he2).setOwn (2 + s) (.bool true)
 obtain ⟨hA2, hnA⟩ := he2.keeps hA (HNY.out _ (Nat.le_refl _))
 obtain ⟨hS2, hnS⟩ := he2.keeps hS (HNY.out _ (by omega))
 have hp3 := hp2.setAct s true (by omega)
 have hA3 := Blk.other hA2 ⟨b, 2 + s, none⟩ (.bool true) (by show w.heap.size ≠ b; omega)
 have hS3 := Blk.other hS2 ⟨b, 2 + s, none⟩ (.bool true) (by show w.heap.size + 1 ≠ b; omega)
 have ca := hp2.ca s (by omega)
 have cz := hp2.fz (2 + s)
 have hbl2 := Blk.lt hp2.blk
 have s3 : (w2.setCell ⟨b, 2 + s, none⟩ (.bool true)).cell? ⟨w.heap.size + 1, 3, none⟩ = some (.int .i64 x.kind) := by rw [Blk.cell hS3]; rfl
 have a0 : (w2.setCell ⟨b, 2 + s, none⟩ (.bool true)).cell? ⟨w.heap.size, 0, none⟩ = some (.int .i64 at_) := by rw [Blk.cell hA3]; rfl
 have a1 : (w2.setCell ⟨b, 2 + s, none⟩ (.bool true)).cell? ⟨w.heap.size, 1, none⟩ = some (.int .u8 am.toNat) := by rw [Blk.cell hA3]; rfl
 have a2 : (w2.setCell ⟨b, 2 + s, none⟩ (.bool true)).cell? ⟨w.heap.size, 2, none⟩ = some (.int .i64 ame) := by rw [Blk.cell hA3]; rfl
 have HO : Hid (p.out.length + x.enter.size ≤ p.out.length + 160) := by show _ ≤ _; omega
 clear hA hS hA2 hS2
 have hs26 : (s : Int) < 26 := by omega
 by_cases hk2 : x.kind = 2
 ·have kb : ((x.kind : Int) == 2) = true := by rw [hk2]; rfl
  have HR : Hid (enF st (f + 1) s ⟨at_, am, ame⟩ p = itF (fun i q => if outAt st i = (s : Int) then enF st f i ⟨at_, am, ame⟩ q else q) (x.end_ - (s + 1)) (s + 1) { p with act := p.act.set s true, out := p.out ++ bls x.enter }) := enF_and HX.out hk2 _ _ _
  have HQ : Hid (({ p with act := p.act.set s true, out := p.out ++ bls x.enter } : Py).out.length + 160 * 2 ^ (26 - (s + 1)) ≤ p.out.length + 160 + 160 * 2 ^ (25 - s)) := by
   show (p.out ++ bls x.enter).length + 160 * 2 ^ (26 - (s + 1)) ≤ _
   rw [List.length_append, bls_len, show 26 - (s + 1) = 25 - s by omega]
   omega
  have HP3 : Hid (PyV _ b st ws { p with act := p.act.set s true, out := p.out ++ bls x.enter } vo2) := hp3
  have HE3 : Hid (EvY b vo vo2 w _) := he3
  have HA3 : Hid (Blk _ w.heap.size _ _) := hA3
  have HS3 : Hid (Blk _ (w.heap.size + 1) _ _) := hS3
  clear hk2 hp2 hp3 he3 hA3 hS3
  go_wp2_with fail
  clear ca cz s3 a0 a1 a2
  go_loopg [7] 26 (fun g vi wr => ∃ (i : Nat) (q : Py) (vq : Value), s + 1 ≤ i ∧ i ≤ x.end_ ∧ vi = .int .i64 i ∧ PyV wr b st ws q vq ∧ EvY b vo vq w wr ∧ Blk wr w.heap.size #[.int .i64 at_, .int .u8 am.toNat, .int .i64 ame] 128 ∧ Blk wr (w.heap.size + 1) #[.int .u8 x.name.toNat, .int .i64 x.place, .int .i64 x.depth, .int .i64 x.kind, .int .i64 x.outer, .int .i64 x.end_, .string x.enter, .string x.leave, .bool x.rem, .bool x.wh] 115 ∧ ¬ OwnY b vq w.heap.size ∧ ¬ OwnY b vq (w.heap.size + 1) ∧ Hid (enF st (f + 1) s ⟨at_, am, ame⟩ p = itF (fun i q => if outAt st i = (s : Int) then enF st f i ⟨at_, am, ame⟩ q else q) (x.end_ - i) i q) ∧ Hid (q.out.length + 160 * 2 ^ (26 - i) ≤ p.out.length + 160 + 160 * 2 ^ (25 - s)) ∧ x.end_ - i ≤ g)
  case atStart => exact ⟨s + 1, _, vo2, Nat.le_refl _, by omega, by go_num, HP3.out, HE3.out, HA3.out, HS3.out, hnA, hnS, HR, HQ, by omega⟩
  case round =>
   obtain ⟨i, q, vq, hi1, hi2, rfl, hpq, heq, hAq, hSq, hnA, hnS, HF, HL, hg⟩ := hrel
   have s5 : wr.cell? ⟨w.heap.size + 1, 5, none⟩ = some (.int .i64 x.end_) := by rw [Blk.cell hSq]; rfl
   have hblq := Blk.lt hpq.blk
   by_cases hlt : (i : Int) < x.end_
   ·obtain ⟨y, hy⟩ : ∃ y, st[i]? = some y := ⟨_, List.getElem?_eq_getElem (by omega)⟩
    have hr := hpq.pl.r2
    rw [HV.out] at hr
    have y4 := (row_cell hr (i * 10 + 4) _ (by rw [flat_get StP.cells 10 StP.len st i 4 y hy (by omega)]; rfl)).1
    have c0 := hpq.c0
    rw [HV.out] at c0
    have hil : (i : Int) < st.length := by omega
    have hph := pow_half (i := i) (by omega)
    have HY : Hid (outAt st i = y.outer) := outAt_at hy
    have HG : Hid (enF st (f + 1) s ⟨at_, am, ame⟩ p = itF (fun i q => if outAt st i = (s : Int) then enF st f i ⟨at_, am, ame⟩ q else q) (x.end_ - (i + 1)) (i + 1) (if outAt st i = (s : Int) then enF st f i ⟨at_, am, ame⟩ q else q)) := by
     show _ = _
     rw [HF.out, show x.end_ - i = (x.end_ - (i + 1)) + 1 by omega, itF]
    have HPH : Hid (160 * 2 ^ (26 - i) = 160 * 2 ^ (25 - i) + 160 * 2 ^ (25 - i)) := hph
    clear hr hy HF hph
    by_cases ho : y.outer = (s : Int)
    ·have hob : (y.outer == (s : Int)) = true := by rw [ho]; exact beq_self_eq_true _
     have HG2 : Hid (enF st (f + 1) s ⟨at_, am, ame⟩ p = itF (fun i q => if outAt st i = (s : Int) then enF st f i ⟨at_, am, ame⟩ q else q) (x.end_ - (i + 1)) (i + 1) (enF st f i ⟨at_, am, ame⟩ q)) := by show _ = _; rw [HG.out, if_pos (by rw [HY.out]; exact ho)]
     have a0 : wr.cell? ⟨w.heap.size, 0, none⟩ = some (.int .i64 at_) := by rw [Blk.cell hAq]; rfl
     have a1 : wr.cell? ⟨w.heap.size, 1, none⟩ = some (.int .u8 am.toNat) := by rw [Blk.cell hAq]; rfl
     have a2 : wr.cell? ⟨w.heap.size, 2, none⟩ = some (.int .i64 ame) := by rw [Blk.cell hAq]; rfl
     clear HG ho HY
     go_wp2_with fail
     refine (HE2.out wr q vq i hpq (by omega) (by omega) (by have h1 := HL.out; have h2 := HB.out; have h3 := HPH.out; have : 1 ≤ 2 ^ (25 - i) := Nat.one_le_two_pow; omega)).mono ?_
     rintro e w4 ⟨rfl, hl4, vo4, hp4, he4⟩
     obtain ⟨hA4, hnA4⟩ := he4.keeps hAq hnA
     obtain ⟨hS4, hnS4⟩ := he4.keeps hSq hnS
     have HL4 : Hid ((enF st f i ⟨at_, am, ame⟩ q).out.length + 160 * 2 ^ (26 - (i + 1)) ≤ p.out.length + 160 + 160 * 2 ^ (25 - s)) := by
      have h1 := HL.out; have h3 := HPH.out
      show _ ≤ _
      rw [show 26 - (i + 1) = 25 - i by omega]
      omega
     clear hl4
     go_wp2_with fail
     go_roundg (x.end_ - (i + 1))
     case measure => omega
     case rel => exact ⟨i + 1, _, vo4, by omega, by omega, by go_num, hp4, heq.trans he4, hA4, hS4, hnA4, hnS4, HG2, HL4, Nat.le_refl _⟩
    ·have hob : (y.outer == (s : Int)) = false := by rw [beq_eq_false_iff_ne]; exact ho
     have HG2 : Hid (enF st (f + 1) s ⟨at_, am, ame⟩ p = itF (fun i q => if outAt st i = (s : Int) then enF st f i ⟨at_, am, ame⟩ q else q) (x.end_ - (i + 1)) (i + 1) q) := by show _ = _; rw [HG.out, if_neg (by rw [HY.out]; exact ho)]
     have HL4 : Hid (q.out.length + 160 * 2 ^ (26 - (i + 1)) ≤ p.out.length + 160 + 160 * 2 ^ (25 - s)) := by
      have h1 := HL.out; have h3 := HPH.out
      show _ ≤ _
      rw [show 26 - (i + 1) = 25 - i by omega]
      omega
     clear HG ho HY
     go_wp2_with fail
     go_roundg (x.end_ - (i + 1))
     case measure => omega
     case rel => exact ⟨i + 1, q, vq, by omega, by omega, by go_num, hpq, heq, hAq, hSq, hnA, hnS, HG2, HL4, Nat.le_refl _⟩
   ·have hie : i = x.end_ := by omega
    subst hie
    have HR2 : Hid (enF st (f + 1) s ⟨at_, am, ame⟩ p = q) := by show _ = _; rw [HF.out, Nat.sub_self, itF]
    have HL4 : Hid (q.out.length ≤ p.out.length + 160 * 2 ^ (25 - s)) := by
     have h1 := HL.out
     have : 1 ≤ 2 ^ (26 - x.end_) := Nat.one_le_two_pow
     show _ ≤ _
     omega
    clear HF HL
    go_wp2_with fail
    go_end0
    rw [HR2.out]
    exact ⟨rfl, HL4.out, vq, hpq, heq⟩
 ·have kb : ((x.kind : Int) == 2) = false := by rw [beq_eq_false_iff_ne]; omega
  by_cases hk1 : x.kind = 1
  ·have kc : ((x.kind : Int) == 1) = true := by rw [hk1]; rfl
   have HR : Hid (enF st (f + 1) s ⟨at_, am, ame⟩ p = enF st f (chP st p.mm s ⟨at_, am, ame⟩).1 (chP st p.mm s ⟨at_, am, ame⟩).2 { p with act := p.act.set s true, out := p.out ++ bls x.enter }) := enF_or HX.out hk1 _ _ _
   have hC := chP_ok HWF.out HX.out (by omega) p.mm ⟨at_, am, ame⟩ HA.out
   obtain ⟨inn, on, hch⟩ : ∃ i o, chP st p.mm s ⟨at_, am, ame⟩ = (i, o) := ⟨_, _, rfl⟩
   obtain ⟨t1, m1, e1⟩ := on
   have HCh : Hid (∀ (w : World) (p' : Py) (vo : Value), p'.mm = p.mm → PyV w b st ws p' vo → Calls Tryz.prog 67 #[.pointer (some ⟨b, 0, none⟩), .int .i64 s, .agg #[.int .i64 at_, .int .u8 am.toNat, .int .i64 ame]] w fun e w' => e = .returned (.tuple #[.int .i64 inn, .agg #[.int .i64 t1, .int .u8 m1.toNat, .int .i64 e1]]) ∧ Fr (fun _ => False) w w') := by
    intro w p' vo he h
    have h1 := choose_any w b st ws p' vo s ⟨at_, am, ame⟩ HWF.out h hs HA.out
    rw [he, hch] at h1
    exact h1
   rw [hch] at hC
   obtain ⟨hi1, hi2, hi3⟩ := hC
   simp only at hi1 hi2
   have HI3 : Hid (AmOk st ⟨t1, m1, e1⟩) := hi3
   have HR2 : Hid (enF st (f + 1) s ⟨at_, am, ame⟩ p = enF st f inn ⟨t1, m1, e1⟩ { p with act := p.act.set s true, out := p.out ++ bls x.enter }) := by show _ = _; rw [HR.out, hch]
   clear hk2 hk1 HR hch hi3
   go_wp2_with fail
   refine (HCh.out _ { p with act := p.act.set s true, out := p.out ++ bls x.enter } _ rfl hp3).mono ?_
   rintro e w4 ⟨rfl, hf4⟩
   go_wp2_with fail
   have hq1 : ({ p with act := p.act.set s true, out := p.out ++ bls x.enter } : Py).out.length = p.out.length + x.enter.size := by show (p.out ++ bls x.enter).length = _; rw [List.length_append, bls_len]
   have hph := pow_half (i := s + 1) (by omega)
   rw [show 26 - (s + 1) = 25 - s by omega] at hph
   have hpm := pow_mono (i := s + 1) (j := inn) (by omega)
   have hp1 : 1 ≤ 2 ^ (25 - (s + 1)) := Nat.one_le_two_pow
   have hbb := HB.out
   refine (HEN.out _ { p with act := p.act.set s true, out := p.out ++ bls x.enter } vo2 inn ⟨t1, m1, e1⟩ (hp3.fr0 (hf4.allocr _)) hi2 (by omega) HI3.out (by rw [hq1]; omega)).mono ?_
   rintro e w5 ⟨rfl, hl5, vo5, hp5, he5⟩
   rw [hq1] at hl5
   have HL5 : Hid ((enF st f inn ⟨t1, m1, e1⟩ { p with act := p.act.set s true, out := p.out ++ bls x.enter }).out.length ≤ p.out.length + 160 * 2 ^ (25 - s)) := by show _ ≤ _; omega
   clear hl5 hq1 hph hpm hbb
   go_wp2_with fail
   go_end0
   rw [HR2.out]
   exact ⟨rfl, HL5.out, vo5, hp5, (he3.then0 (hf4.allocr _)).trans he5⟩
  ·have kc : ((x.kind : Int) == 1) = false := by rw [beq_eq_false_iff_ne]; omega
   have HR : Hid (enF st (f + 1) s ⟨at_, am, ame⟩ p = { p with act := p.act.set s true, out := p.out ++ bls x.enter }) := enF_leaf HX.out hk2 hk1 _ _ _
   clear hk2 hk1
   go_wp2_with fail
   go_end0
   rw [HR.out]
   refine ⟨rfl, ?_, vo2, hp3, he3⟩
   show (p.out ++ bls x.enter).length ≤ _
   rw [List.length_append, bls_len]
   omega
theorem enter_all (st : List StP) (ws : Wp) (b : Nat) (hwf : Wf st) (hsz : SzOk st) : ∀ f, EnC st ws b f
 | 0 => fun w p vo s a _ hs hf => absurd hf (by omega)
 | f + 1 => enter_step st ws b f hwf hsz (enter_all st ws b hwf hsz f)

theorem scF_kind (st : List StP) (ts : Nat) : ∀ (f : Nat) (s : Int) (k : Nat), scF st ts f s = (k : Int) → kindAt st k = 1
 | 0, s, k, h => by simp only [scF] at h; omega
 | f + 1, s, k, h => by
  unfold scF at h
  split at h
  ·omega
  ·split at h
   ·rename_i h2 h3
    rw [h] at h3
    simp only [Bool.and_eq_true, beq_iff_eq, Int.toNat_natCast] at h3
    exact h3.1
   ·exact scF_kind st ts f _ k h
def fiOf (st : List StP) (t : TrQ) : Nat := if scOf st t = -1 then 0 else inTo st (scOf st t).toNat t.ts.toNat
theorem fiOf_in (st : List StP) (hw : Wf st) (t : TrQ) (ht : TrOk st t) : fiOf st t < st.length := by
 have hb := scOf_bd st hw t ht
 have h0 := ht.1
 unfold fiOf
 split
 ·omega
 ·rename_i h1
  obtain ⟨k, hk⟩ : ∃ k : Nat, scOf st t = k := ⟨(scOf st t).toNat, by omega⟩
  have h2 := scF_kind st _ _ _ _ hk
  rw [hk, Int.toNat_natCast]
  obtain ⟨x, hx⟩ : ∃ x, st[k]? = some x := ⟨_, List.getElem?_eq_getElem (by omega)⟩
  refine (inTo_in2 hw hx ?_ _).2
  simp only [kindAt, hx] at h2
  omega
def tkF (st : List StP) (t : TrQ) (p : Py) : Py :=
 enF st 26 (fiOf st t) ⟨t.ts, t.mark, -1⟩ { lvF st (lefB st p.act t) st.length (rmF st (lefB st p.act t) st.length p) with out := (lvF st (lefB st p.act t) st.length (rmF st (lefB st p.act t) st.length p)).out ++ bls t.acts }
theorem rmF_out (st : List StP) (left : List Bool) : ∀ (k : Nat) (p : Py), (rmF st left k p).out = p.out
 | 0, p => rfl
 | k + 1, p => by
  rw [rmF, rmS]
  split
  ·split
   ·exact rmF_out st left k p
   ·exact rmF_out st left k p
  ·exact rmF_out st left k p
end Go.Proofs.YtmolmbeeoecnfaaGreatDoor
