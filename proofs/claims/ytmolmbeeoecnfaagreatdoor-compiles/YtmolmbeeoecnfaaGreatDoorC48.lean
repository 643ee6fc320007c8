/- Own work: CmC. -/
import Derived.Test.YtmolmbeeoecnfaaGreatDoorC47
/- Own work: walks of the document's compiler: copied. -/
namespace Go.Proofs.YtmolmbeeoecnfaaGreatDoor
open Go.RowKit Go.BigFrame
set_option linter.unusedVariables false
set_option linter.unusedSimpArgs false

theorem elemBool : ElemOk Tryz.prog 54 4 1 1 where
 ht := Tryz.underlying54
 info := by
  obtain ⟨i, h0, h1, h2, h3⟩ := info_parts (show (Tryz.prog.info? 4).map (fun i => (i.zero, i.size, i.bytes)) = some (some (.bool false), 1, 1) by kernel_rfl)
  exact ⟨i, _, h0, h1, h2, h3, rfl⟩
 pos := by decide

structure CyV (w : World) (b : Nat) (M : GM) (on : List Bool) (me : List ByteArray) (k k2 : Nat) (v4 v5 : Value) : Prop where
 blk : Blk w b #[.slice (some ⟨M.c.g3, 0, none⟩) M.c.sts.length M.c.c3, .slice M.c.a4 M.c.trs.length M.c.c4, M.v5, M.v6, v4, v5, .string ⟨#[]⟩] 57
 r4 : w.ownsRow 0 4 1 v4 k (bV (on.take k))
 r5 : w.ownsRow 0 9 1 v5 k2 ((me.take k2).map Value.string)
 n4 : ∀ j, v4.ownBlock = some j → b < j
 n5 : ∀ j, v5.ownBlock = some j → b < j
 d : ∀ j, v4.ownBlock = some j → v5.ownBlock ≠ some j
section
variable {w w1 : World} {b : Nat} {M : GM} {on : List Bool} {me : List ByteArray} {k k2 : Nat} {v4 v5 : Value}
theorem CyV.fr0 (h : CyV w b M on me k k2 v4 v5) (f : Fr (fun _ => False) w w1) : CyV w1 b M on me k k2 v4 v5 :=
 ⟨Blk.fr h.blk f (fun h => h), row_fr h.r4 f (fun _ _ h => h), row_fr h.r5 f (fun _ _ h => h), h.n4, h.n5, h.d⟩
theorem CyV.drew (h : CyV w b M on me k k2 v4 v5) : CyV w.drew b M on me k k2 v4 v5 := h.fr0 (Fr.drew _ _)
theorem CyV.alloc (h : CyV w b M on me k k2 v4 v5) (o : Obj) : CyV (w.alloc o) b M on me k k2 v4 v5 := h.fr0 (Fr.alloc _ _ _)
theorem CyV.after4 (h : CyV w b M on me k k2 v4 v5) (hg : w.grownBy w1 v4.ownBlock) : w1.cell? ⟨b, 4, none⟩ = some v4 ∧ w1.frozen? ⟨b, 4, none⟩ = false := by
 have f : Fr (fun j => v4.ownBlock = some j) w w1 := Fr.grown _ hg (fun _ e => e)
 have hb := Blk.fr h.blk f (fun e => by have := h.n4 b e; omega)
 exact ⟨by rw [Blk.cell hb]; rfl, Blk.frozen hb 4⟩
theorem CyV.after5 (h : CyV w b M on me k k2 v4 v5) (hg : w.grownBy w1 v5.ownBlock) : w1.cell? ⟨b, 5, none⟩ = some v5 ∧ w1.frozen? ⟨b, 5, none⟩ = false := by
 have f : Fr (fun j => v5.ownBlock = some j) w w1 := Fr.grown _ hg (fun _ e => e)
 have hb := Blk.fr h.blk f (fun e => by have := h.n5 b e; omega)
 exact ⟨by rw [Blk.cell hb]; rfl, Blk.frozen hb 5⟩
theorem CyV.push4 {g cap : Nat} {x : Bool} (h : CyV w b M on me k k2 v4 v5) (hx : on[k]? = some x)
  (hr : w1.ownsRow 0 4 1 (.slice (some ⟨g, 0, none⟩) (k + 1) cap) (k + 1) (bV (on.take k) ++ [.bool x]))
  (hg : w.grownBy w1 v4.ownBlock) (hgo : v4.ownBlock = some g ∨ w.heap.size ≤ g) :
  CyV (w1.setCell ⟨b, 4, none⟩ (.slice (some ⟨g, 0, none⟩) (k + 1) cap)) b M on me (k + 1) k2 (.slice (some ⟨g, 0, none⟩) (k + 1) cap) v5 ∧ Fr (fun j => b ≤ j) w (w1.setCell ⟨b, 4, none⟩ (.slice (some ⟨g, 0, none⟩) (k + 1) cap)) := by
 have f : Fr (fun j => v4.ownBlock = some j) w w1 := Fr.grown _ hg (fun _ e => e)
 have f2 : Fr (· = b) w1 (w1.setCell ⟨b, 4, none⟩ (.slice (some ⟨g, 0, none⟩) (k + 1) cap)) := Fr.setCell _ _ _ _ rfl
 have hbl := Blk.lt h.blk
 have hgb : b < g := by rcases hgo with e | e; exact h.n4 g e; omega
 have hb := Blk.fr h.blk f (fun e => by have := h.n4 b e; omega)
 have e1 : bV (on.take k) ++ [.bool x] = bV (on.take (k + 1)) := by
  rw [List.take_add_one, hx]
  simp [bV]
 rw [e1] at hr
 refine ⟨⟨Blk.set hb 4 _, row_fr hr f2 (fun j hj e => by simp [Value.ownBlock] at hj; omega), row_fr h.r5 (f.trans f2 (U := fun j => v4.ownBlock = some j ∨ j = b) (fun _ _ h => Or.inl h) (fun _ _ h => Or.inr h)) (fun j hj e => ?_), fun j hj => ?_, h.n5, fun j hj e => ?_⟩, f.trans f2 (fun j _ e => by have := h.n4 j e; omega) (fun j _ e => by omega)⟩
 ·rcases e with e | e
  ·exact h.d j e hj
  ·have := h.n5 j hj; omega
 ·simp only [Value.ownBlock, Option.some.injEq] at hj; omega
 ·simp only [Value.ownBlock, Option.some.injEq] at hj
  subst hj
  rcases hgo with e2 | e2
  ·exact h.d _ e2 e
  ·have := (h.r5.lt _ e).2; omega
theorem CyV.push5 {g cap : Nat} {x : ByteArray} (h : CyV w b M on me k k2 v4 v5) (hx : me[k2]? = some x)
  (hr : w1.ownsRow 0 9 1 (.slice (some ⟨g, 0, none⟩) (k2 + 1) cap) (k2 + 1) ((me.take k2).map Value.string ++ [.string x]))
  (hg : w.grownBy w1 v5.ownBlock) (hgo : v5.ownBlock = some g ∨ w.heap.size ≤ g) :
  CyV (w1.setCell ⟨b, 5, none⟩ (.slice (some ⟨g, 0, none⟩) (k2 + 1) cap)) b M on me k (k2 + 1) v4 (.slice (some ⟨g, 0, none⟩) (k2 + 1) cap) ∧ Fr (fun j => b ≤ j) w (w1.setCell ⟨b, 5, none⟩ (.slice (some ⟨g, 0, none⟩) (k2 + 1) cap)) := by
 have f : Fr (fun j => v5.ownBlock = some j) w w1 := Fr.grown _ hg (fun _ e => e)
 have f2 : Fr (· = b) w1 (w1.setCell ⟨b, 5, none⟩ (.slice (some ⟨g, 0, none⟩) (k2 + 1) cap)) := Fr.setCell _ _ _ _ rfl
 have hbl := Blk.lt h.blk
 have hgb : b < g := by rcases hgo with e | e; exact h.n5 g e; omega
 have hb := Blk.fr h.blk f (fun e => by have := h.n5 b e; omega)
 have e1 : (me.take k2).map Value.string ++ [.string x] = (me.take (k2 + 1)).map Value.string := by
  rw [List.take_add_one, hx]
  simp
 rw [e1] at hr
 refine ⟨⟨Blk.set hb 5 _, row_fr h.r4 (f.trans f2 (U := fun j => v5.ownBlock = some j ∨ j = b) (fun _ _ h => Or.inl h) (fun _ _ h => Or.inr h)) (fun j hj e => ?_), row_fr hr f2 (fun j hj e => by simp [Value.ownBlock] at hj; omega), h.n4, fun j hj => ?_, fun j hj e => ?_⟩, f.trans f2 (fun j _ e => by have := h.n5 j e; omega) (fun j _ e => by omega)⟩
 ·rcases e with e | e
  ·exact h.d j hj e
  ·have := h.n4 j hj; omega
 ·simp only [Value.ownBlock, Option.some.injEq] at hj; omega
 ·simp only [Value.ownBlock, Option.some.injEq] at e
  subst e
  rcases hgo with e2 | e2
  ·exact h.d _ hj e2
  ·have := (h.r4.lt _ hj).2; omega
theorem CyV.whole {w0 : World} {o : ByteArray} (h : CyV w b M on me M.c.sts.length M.c.sts.length v4 v5) (hg : Gm w0 M on me o) (h0 : 0 < M.c.sts.length) (hb : w0.heap.size ≤ b) (f : Fr (fun _ => False) w0 w) :
  ∃ N : GM, N.c = M.c ∧ N.gb = b ∧ Gm w N on me ⟨#[]⟩ ∧ (w0.heap.size ≤ N.gb ∧ w0.heap.size ≤ N.ob ∧ w0.heap.size ≤ N.mb) := by
 have t4 : on.take M.c.sts.length = on := List.take_of_length_le (by rw [hg.lo]; exact Nat.le_refl _)
 have t5 : me.take M.c.sts.length = me := List.take_of_length_le (by rw [hg.lm]; exact Nat.le_refl _)
 have r4 := h.r4
 have r5 := h.r5
 rw [t4] at r4
 rw [t5] at r5
 rcases r4.2 with ⟨_, e0⟩ | ⟨g, cap, cur, hv4, -, hc4, -, -, -, q4⟩
 ·omega
 rcases r5.2 with ⟨_, e0⟩ | ⟨g', cap', cur', hv5, -, hc5, -, -, -, q5⟩
 ·omega
 subst hv4
 subst hv5
 have b1 := h.n4 g rfl
 have b2 := h.n5 g' rfl
 have b3 : g ≠ g' := fun e => h.d g rfl (by rw [e]; rfl)
 have e4 : cur = (bV on ++ cur.toList.drop M.c.sts.length).toArray := by
  rw [← q4, Nat.mul_one, List.take_append_drop]
 have e5 : cur' = (me.map Value.string ++ cur'.toList.drop M.c.sts.length).toArray := by
  rw [← q5, Nat.mul_one, List.take_append_drop]
 have hg3 : M.c.g3 < w0.heap.size := (hg.ct.r3.lt M.c.g3 rfl).2
 have hg4 : ∀ k, (Value.slice M.c.a4 M.c.trs.length M.c.c4).ownBlock = some k → k < w0.heap.size := fun k hk => (hg.ct.r4.lt k hk).2
 refine ⟨⟨M.c, b, g, g', M.v5, M.v6, cap, cap', cur.toList.drop M.c.sts.length, cur'.toList.drop M.c.sts.length⟩, rfl, rfl, ⟨hg.ct.fr0 f, h.blk, ?_, ?_, hg.lo, hg.lm, ?_, ?_, b3, ?_, ?_⟩, ?_⟩
 ·show Blk w g (bV on ++ cur.toList.drop M.c.sts.length).toArray _
  rw [← e4]; exact hc4
 ·show Blk w g' (me.map Value.string ++ cur'.toList.drop M.c.sts.length).toArray _
  rw [← e5]; exact hc5
 ·show b ≠ g; omega
 ·show b ≠ g'; omega
 ·show M.c.g3 ≠ b ∧ M.c.g3 ≠ g ∧ M.c.g3 ≠ g'; omega
 ·intro k hk
  have := hg4 k hk
  show k ≠ b ∧ k ≠ g ∧ k ≠ g'
  omega
 ·show w0.heap.size ≤ b ∧ w0.heap.size ≤ g ∧ w0.heap.size ≤ g'; omega
end

set_option maxRecDepth 100000 in
set_option maxHeartbeats 4000000 in
theorem dcopied_any (w : World) (M : GM) (st : List StP) (p : Py) (hp : GmP w M st p) (h0 : 0 < M.c.sts.length) :
  Calls Tryz.prog 17 #[.pointer (some ⟨M.gb, 0, none⟩)] w fun e w' => ∃ N : GM, N.c = M.c ∧ e = .returned (.pointer (some ⟨N.gb, 0, none⟩)) ∧ GmP w' N st { p with out := [] } ∧ (w.heap.size ≤ N.gb ∧ w.heap.size ≤ N.ob ∧ w.heap.size ≤ N.mb) ∧ Fr (fun _ => False) w w' := by
 have HP : Hid (GmP w M st p) := hp
 have hl3 := hp.1.ct.l3
 have c0 : w.cell? ⟨M.gb, 0, none⟩ = some (.slice (some ⟨M.c.g3, 0, none⟩) M.c.sts.length M.c.c3) := by rw [Blk.cell hp.1.blk]; rfl
 have c1 : w.cell? ⟨M.gb, 1, none⟩ = some (.slice M.c.a4 M.c.trs.length M.c.c4) := by rw [Blk.cell hp.1.blk]; rfl
 have c2 : w.cell? ⟨M.gb, 2, none⟩ = some M.v5 := by rw [Blk.cell hp.1.blk]; rfl
 have c3 : w.cell? ⟨M.gb, 3, none⟩ = some M.v6 := by rw [Blk.cell hp.1.blk]; rfl
 obtain ⟨on, hon⟩ : ∃ on, onOf M.c.sts.length p.act = on := ⟨_, rfl⟩
 obtain ⟨me, hme⟩ : ∃ me, meOf st p.mm = me := ⟨_, rfl⟩
 have HG : Hid (Gm w M on me ⟨p.out.toArray⟩) := by rw [← hon, ← hme]; exact hp.1
 have HE : Hid (∀ w' N, N.c = M.c → Gm w' N on me ⟨#[]⟩ → GmP w' N st { p with out := [] }) := fun w' N hN h => by
  refine ⟨?_, hp.2⟩
  rw [hN, hon]
  show Gm w' N on (meOf st p.mm) ⟨([] : List UInt8).toArray⟩
  rw [hme]
  exact h
 have hb0 := Blk.new w #[.slice (some ⟨M.c.g3, 0, none⟩) M.c.sts.length M.c.c3, .slice M.c.a4 M.c.trs.length M.c.c4, M.v5, M.v6, .slice none 0 0, .slice none 0 0, .string ⟨#[]⟩] 57
 have HV0 : Hid (CyV (w.alloc (.cells #[.slice (some ⟨M.c.g3, 0, none⟩) M.c.sts.length M.c.c3, .slice M.c.a4 M.c.trs.length M.c.c4, M.v5, M.v6, .slice none 0 0, .slice none 0 0, .string ⟨#[]⟩] 57)) w.heap.size M on me 0 0 (.slice none 0 0) (.slice none 0 0)) :=
  ⟨hb0, ⟨rfl, .inl ⟨rfl, rfl⟩⟩, ⟨rfl, .inl ⟨rfl, rfl⟩⟩, fun j hj => by simp [Value.ownBlock] at hj, fun j hj => by simp [Value.ownBlock] at hj, fun j hj => by simp [Value.ownBlock] at hj⟩
 have HF0 : Hid (Fr (fun _ => False) w (w.alloc (.cells #[.slice (some ⟨M.c.g3, 0, none⟩) M.c.sts.length M.c.c3, .slice M.c.a4 M.c.trs.length M.c.c4, M.v5, M.v6, .slice none 0 0, .slice none 0 0, .string ⟨#[]⟩] 57))) := by show Fr _ _ _; (repeat (first | exact Fr.refl _ _ | assumption | refine Fr.drewNr ?_ _ | refine Fr.drewr ?_ | refine Fr.allocr ?_ _ | refine Fr.setCellr ?_ _ _ (by first | exact Or.inl rfl | (right; simp; done) | (right; simp; omega))))
 clear hp hon hme hb0
 go_enter Tryz.func17, Tryz.ntmps17
 go_wp2_with fail
 generalize w.alloc (.cells #[.slice (some ⟨M.c.g3, 0, none⟩) M.c.sts.length M.c.c3, .slice M.c.a4 M.c.trs.length M.c.c4, M.v5, M.v6, .slice none 0 0, .slice none 0 0, .string ⟨#[]⟩] 57) = W at *
 obtain ⟨b, hb⟩ : ∃ b, w.heap.size = b := ⟨_, rfl⟩
 have HBB : Hid (w.heap.size = b) := hb
 rw [hb] at HV0 ⊢
 clear hb c0 c1 c2 c3
 go_loopg [4] 27 (fun g vi wr => ∃ (k : Nat) (v4 v5 : Value), k ≤ M.c.sts.length ∧ vi = .int .i64 k ∧ Hid (CyV wr b M on me k k v4 v5) ∧ Hid (Fr (fun _ => False) w wr) ∧ M.c.sts.length - k ≤ g)
 case atStart => exact ⟨0, _, _, Nat.zero_le _, rfl, HV0, HF0, by omega⟩
 case round =>
  clear HV0 HF0
  obtain ⟨k, v4, v5, hk, rfl, HV, HF, hg⟩ := hrel
  have hgr := HG.out.fr0 HF.out
  have m4 := hgr.c4
  by_cases hlt : (k : Int) < M.c.sts.length
  ·have hlt' : k < M.c.sts.length := by omega
   have mk4 := hgr.on' hlt'
   obtain ⟨y, hy⟩ : ∃ y, me[k]? = some y := ⟨_, List.getElem?_eq_getElem (by rw [HG.out.lm]; exact hlt')⟩
   have hx : on[k]? = some (mem on k) := by
    have h1 : k < on.length := by rw [HG.out.lo]; exact hlt'
    simp [mem, h1]
   have HX : Hid _ := hx
   have HY : Hid (me[k]? = some y) := hy
   obtain ⟨a4, n4c, hv4⟩ := row_len HV.out.r4
   obtain ⟨a5, n5c, hv5⟩ := row_len HV.out.r5
   subst hv4
   subst hv5
   have x4 : wr.cell? ⟨b, 4, none⟩ = some (.slice a4 k n4c) := by rw [Blk.cell HV.out.blk]; rfl
   have z4 := Blk.frozen HV.out.blk 4
   have hbl := Blk.lt HV.out.blk
   clear hgr hx hy
   go_upto_region 5 with fail
   go_cut [4] (fun s4 wx => s4 = .int .i64 k ∧ ∃ v4', Hid (CyV wx b M on me (k + 1) k v4' (.slice a5 k n5c)) ∧ Hid (Fr (fun _ => False) w wx))
   case first =>
    go_region_law (refine step_append1 rfl (.tmp 24) (.tmp 32) 54 rfl 4 1 1 elemBool (.slice a4 k n4c) k (bV (on.take k)) (by simp [Act.eval, Act.put]) (by exact ((HV.out.drew).alloc _).r4) ⟨wr.heap.size, 0, none⟩ 1 [.bool (mem on k)] (by simp [Act.eval, Act.put]) rfl (by exact cells_new (Blk.new' _ _ _ _ (by simp))) (by intro u hu; simp at hu; subst hu; rfl) (by unfold maxLen; omega) (by omega) ?_; intro g cap w9 hrow hgrow hgo; obtain ⟨k4, kz4⟩ := ((HV.out.drew).alloc _).after4 hgrow)
    all_goals
     go_wp2_with fail
     go_meet
     obtain ⟨q1, q2⟩ := ((HV.out.drew).alloc _).push4 HX.out hrow hgrow hgo
     exact ⟨rfl, _, q1, ((HF.out.drewr).allocr _).thenr q2 (fun i hi e => by have := HBB.out; omega)⟩
   case rest =>
    obtain ⟨rfl, v4', HV2, HF2⟩ := hcut
    have hgr := HG.out.fr0 HF2.out
    have m5 := hgr.c5
    have mk5 := hgr.me' HY.out
    have x5 : wc.cell? ⟨b, 5, none⟩ = some (.slice a5 k n5c) := by rw [Blk.cell HV2.out.blk]; rfl
    have z5 := Blk.frozen HV2.out.blk 5
    have hbl2 := Blk.lt HV2.out.blk
    clear hgr x4 z4 hbl m4 mk4 HV HF
    go_upto_region 6 with fail
    go_region_law (refine step_append1 rfl (.tmp 40) (.tmp 48) 55 rfl 9 1 16 elemStr (.slice a5 k n5c) k ((me.take k).map Value.string) (by simp [Act.eval, Act.put]) (by exact ((HV2.out.drew).alloc _).r5) ⟨wc.heap.size, 0, none⟩ 1 [.string y] (by simp [Act.eval, Act.put]) rfl (by exact cells_new (Blk.new' _ _ _ _ (by simp))) (by intro u hu; simp at hu; subst hu; rfl) (by unfold maxLen; omega) (by omega) ?_; intro g cap w9 hrow hgrow hgo; obtain ⟨k5, kz5⟩ := ((HV2.out.drew).alloc _).after5 hgrow)
    all_goals
     go_wp2_with fail
     go_roundg (M.c.sts.length - (k + 1))
     case measure => omega
     case rel =>
      obtain ⟨q1, q2⟩ := ((HV2.out.drew).alloc _).push5 HY.out hrow hgrow hgo
      exact ⟨k + 1, v4', _, by omega, by go_num, q1, ((HF2.out.drewr).allocr _).thenr q2 (fun i hi e => by have := HBB.out; omega), Nat.le_refl _⟩
  ·have hkn : k = M.c.sts.length := by omega
   subst hkn
   obtain ⟨N, n1, n2, n3, n4⟩ := HV.out.whole HG.out h0 (Nat.le_of_eq HBB.out) HF.out
   have HN : Hid _ := n2
   have HN3 : Hid _ := HE.out wr N n1 n3
   clear n2 n3 hgr
   go_wp2_with fail
   go_ret
   exact ⟨N, n1, by rw [HN.out]; rfl, HN3.out, n4, HF.out⟩
end Go.Proofs.YtmolmbeeoecnfaaGreatDoor
