/- Own work: Pen4, Pen5. -/
import Derived.Test.YtmolmbeeoecnfaaGreatDoorF06
import Derived.Deep.LoopGhost
import Derived.Deep.RegionHeldLaw
import Derived.Deep.DeepCutAuto
import Derived.Test.YtmolmbeeoecnfaaGreatDoorF07
import Derived.Test.YtmolmbeeoecnfaaGreatDoorF02
/- Own work: the walk of the document's reader: trans. -/
namespace Go.Proofs.YtmolmbeeoecnfaaGreatDoor
open Go.RowKit Go.BigFrame
set_option linter.unusedVariables false
set_option linter.unusedSimpArgs false

def tBlk (w : World) (q : Nat) (own : Nat) (ev : UInt8) (cds : ByteArray) (tg : UInt8) (mk ac : ByteArray) : Prop :=
 Blk w q #[.int .i64 own, .int .u8 ev.toNat, .string cds, .int .u8 tg.toNat, .string mk, .string ac] 96
theorem tBlk.cells {w : World} {q : Nat} {own : Nat} {ev : UInt8} {cds : ByteArray} {tg : UInt8} {mk ac : ByteArray} (h : tBlk w q own ev cds tg mk ac) :
  w.cell? ⟨q, 0, none⟩ = some (.int .i64 own) ∧ w.cell? ⟨q, 1, none⟩ = some (.int .u8 ev.toNat) ∧ w.cell? ⟨q, 2, none⟩ = some (.string cds) ∧
  w.cell? ⟨q, 3, none⟩ = some (.int .u8 tg.toNat) ∧ w.cell? ⟨q, 4, none⟩ = some (.string mk) ∧ w.cell? ⟨q, 5, none⟩ = some (.string ac) ∧ ∀ o, w.frozen? ⟨q, o, none⟩ = false := by
 refine ⟨?_, ?_, ?_, ?_, ?_, ?_, Blk.frozen h⟩ <;> (rw [Blk.cell h]; rfl)

theorem Inv.t5 {s : ByteArray} {p : Pn} (h : Inv s p) (tg : UInt8) : Inv s (tr5 s p tg) := by
 unfold tr5
 split
 ·have hi := (isM_in s p.i p.bad ‹_›).2
  obtain ⟨h1, h2, h3, h4, h5⟩ := h
  refine ⟨hi, ?_, ?_, ?_, ?_⟩ <;> simp <;> omega
 ·exact h

structure TrS (w0 : World) (b : Nat) (s : ByteArray) (vs0 : Vs) (q : Nat) (own : Nat) (w : World) (p : Pn) (vs : Vs) (ev : UInt8) (cds : ByteArray) (tg : UInt8) (mk ac : ByteArray) : Prop where
 pen : PenV w b s p vs
 evo : Ev b vs0 vs w0 w
 tb : tBlk w q own ev cds tg mk ac
 no : ¬ OwnS b vs q
 new : w0.heap.size ≤ q

section
variable {w0 w : World} {b : Nat} {s : ByteArray} {vs0 vs : Vs} {q own : Nat} {p : Pn} {ev : UInt8} {cds : ByteArray} {tg : UInt8} {mk ac : ByteArray}
theorem TrS.call {w' : World} {p' : Pn} {vs' : Vs} (h : TrS w0 b s vs0 q own w p vs ev cds tg mk ac) (hp : PenV w' b s p' vs') (he : Ev b vs vs' w w') : TrS w0 b s vs0 q own w' p' vs' ev cds tg mk ac :=
 ⟨hp, h.evo.trans he, (he.keeps h.tb h.no).1, (he.keeps h.tb h.no).2, h.new⟩
theorem TrS.drewN (h : TrS w0 b s vs0 q own w p vs ev cds tg mk ac) (n : Nat) : TrS w0 b s vs0 q own (w.drewN n) p vs ev cds tg mk ac := h.call (h.pen.drewN n) ((Ev.refl _ _ _).drewN n)
theorem TrS.drew (h : TrS w0 b s vs0 q own w p vs ev cds tg mk ac) : TrS w0 b s vs0 q own w.drew p vs ev cds tg mk ac := h.call h.pen.drew (Ev.refl _ _ _).drew
theorem TrS.alloc (h : TrS w0 b s vs0 q own w p vs ev cds tg mk ac) (o : Obj) : TrS w0 b s vs0 q own (w.alloc o) p vs ev cds tg mk ac := h.call (h.pen.alloc o) ((Ev.refl _ _ _).alloc o)
theorem TrS.inc (h : TrS w0 b s vs0 q own w p vs ev cds tg mk ac) : TrS w0 b s vs0 q own (w.setCell ⟨b, 1, none⟩ (.int .i64 ((p.i : Int) + 1))) { p with i := p.i + 1 } vs ev cds tg mk ac := h.call (h.pen.step _ rfl) ((Ev.refl _ _ _).setOwn 1 _)
theorem TrS.facts (h : TrS w0 b s vs0 q own w p vs ev cds tg mk ac) : w.cell? ⟨b, 1, none⟩ = some (.int .i64 p.i) ∧ (∀ o, w.frozen? ⟨b, o, none⟩ = false) ∧ (∀ o, w.frozen? ⟨q, o, none⟩ = false) ∧ b < w.heap.size ∧ q < w.heap.size ∧ b ≠ q ∧ q ≠ b :=
 ⟨h.pen.blk.cells.2.1, h.pen.blk.cells.2.2.2.2.2.2.2, Blk.frozen h.tb, Blk.lt h.pen.blk, Blk.lt h.tb, fun e => h.no (Or.inl e.symm), fun e => h.no (Or.inl e)⟩
theorem TrS.set1 (h : TrS w0 b s vs0 q own w p vs ev cds tg mk ac) (x : UInt8) : TrS w0 b s vs0 q own (w.setCell ⟨q, 1, none⟩ (.int .u8 x.toNat)) p vs x cds tg mk ac :=
 ⟨h.pen.setOther _ _ h.no, h.evo.setNew _ _ h.new, Blk.set h.tb 1 _, h.no, h.new⟩
theorem TrS.set2 (h : TrS w0 b s vs0 q own w p vs ev cds tg mk ac) (x : ByteArray) : TrS w0 b s vs0 q own (w.setCell ⟨q, 2, none⟩ (.string x)) p vs ev x tg mk ac :=
 ⟨h.pen.setOther _ _ h.no, h.evo.setNew _ _ h.new, Blk.set h.tb 2 _, h.no, h.new⟩
theorem TrS.set3 (h : TrS w0 b s vs0 q own w p vs ev cds tg mk ac) (x : UInt8) : TrS w0 b s vs0 q own (w.setCell ⟨q, 3, none⟩ (.int .u8 x.toNat)) p vs ev cds x mk ac :=
 ⟨h.pen.setOther _ _ h.no, h.evo.setNew _ _ h.new, Blk.set h.tb 3 _, h.no, h.new⟩
theorem TrS.set4 (h : TrS w0 b s vs0 q own w p vs ev cds tg mk ac) (x : ByteArray) : TrS w0 b s vs0 q own (w.setCell ⟨q, 4, none⟩ (.string x)) p vs ev cds tg x ac :=
 ⟨h.pen.setOther _ _ h.no, h.evo.setNew _ _ h.new, Blk.set h.tb 4 _, h.no, h.new⟩
theorem TrS.set5 (h : TrS w0 b s vs0 q own w p vs ev cds tg mk ac) (x : ByteArray) : TrS w0 b s vs0 q own (w.setCell ⟨q, 5, none⟩ (.string x)) p vs ev cds tg mk x :=
 ⟨h.pen.setOther _ _ h.no, h.evo.setNew _ _ h.new, Blk.set h.tb 5 _, h.no, h.new⟩
theorem TrS.grow6 {w' : World} (h : TrS w0 b s vs0 q own w p vs ev cds tg mk ac) (hg : w.grownBy w' vs.v6.ownBlock) : tBlk w' q own ev cds tg mk ac ∧ PenB w' b s p.i p.bad vs.v3 vs.v4 vs.v5 vs.v6 :=
 ⟨Blk.fr h.tb (Fr.grown (fun j => vs.v6.ownBlock = some j) hg (fun _ e => e)) (fun e => h.no (by unfold OwnS; simp [e])), Blk.fr h.pen.blk (Fr.grown (fun j => vs.v6.ownBlock = some j) hg (fun _ e => e)) h.pen.n6⟩
theorem TrS.grow4 {w' : World} (h : TrS w0 b s vs0 q own w p vs ev cds tg mk ac) (hg : w.grownBy w' vs.v4.ownBlock) : tBlk w' q own ev cds tg mk ac ∧ PenB w' b s p.i p.bad vs.v3 vs.v4 vs.v5 vs.v6 :=
 ⟨Blk.fr h.tb (Fr.grown (fun j => vs.v4.ownBlock = some j) hg (fun _ e => e)) (fun e => h.no (by unfold OwnS; simp [e])), Blk.fr h.pen.blk (Fr.grown (fun j => vs.v4.ownBlock = some j) hg (fun _ e => e)) h.pen.n4⟩
end

set_option maxRecDepth 100000 in
set_option maxHeartbeats 2000000 in
theorem trans_any (w : World) (b : Nat) (s : ByteArray) (own : Nat) (p : Pn) (vs : Vs) (hp : PenV w b s p vs) (hs : s.size ≤ 1000000) (hv : Inv s p) (hn : p.i < s.size) :
    Calls Tryz.prog 52 #[.pointer (some ⟨b, 0, none⟩), .int .i64 own] w fun e w' => e = .returned (.tuple #[]) ∧ ∃ vs', PenV w' b s (trP s own p) vs' ∧ Ev b vs vs' w w' := by
  obtain ⟨c0, c1, c2, -, -, -, -, hfz⟩ := hp.blk.cells
  have hz1 := hfz 1
  have hbl := Blk.lt hp.blk
  clear hfz
  go_enter Tryz.func52, Tryz.ntmps52
  go_wp2_with fail
  refine (take_at _ b s 97 122 97 122 rfl rfl (p.i + 1) p.bad vs.v3 vs.v4 vs.v5 vs.v6 (by exact Blk.alloc (Blk.set hp.blk 1 _) _) (by omega)).mono ?_
  rintro e w1 ⟨rfl, hp1, hf1⟩
  have hno : ¬ OwnS b vs w.heap.size := fun h => Nat.lt_irrefl _ (hp.own_lt h)
  have hT1 : TrS w b s vs w.heap.size own w1 (tr1 s p) vs 0 ⟨#[]⟩ 0 ⟨#[]⟩ ⟨#[]⟩ := by
    refine ⟨(((hp.step _ rfl).alloc _).move hp1 hf1), (((Ev.refl b vs w).setOwn 1 _).alloc _).trans (Ev.of_fr hf1), ?_, hno, Nat.le_refl _⟩
    refine Blk.fr ?_ hf1 (by omega)
    have := Blk.new (w.setCell ⟨b, 1, none⟩ (.int .i64 ((p.i : Int) + 1))) #[.int .i64 own, .int .u8 0, .string ⟨#[]⟩, .int .u8 0, .string ⟨#[]⟩, .string ⟨#[]⟩] 96
    rw [World.size_setCell] at this
    exact this
  have hI1 : Inv s (tr1 s p) := by
    have := tkI_bd s 97 122 (p.i + 1) p.bad (by omega)
    exact hv.to _ _ (by omega) this.2
  have hq0 : w.heap.size ≤ w.heap.size := Nat.le_refl _
  generalize hq : w.heap.size = q at hT1 hno hq0
  have Hq : Hid (w.heap.size = q) := hq
  clear hq
  clear c0 c1 c2 hz1 hbl hp1 hf1
  obtain ⟨f1, fb, fq, fbl, fql, fne, fne'⟩ := hT1.facts
  have c1 := hT1.tb.cells.2.1
  have z1 := fq 1
  go_wp2_with fail
  have hT2 := hT1.set1 (trE s p)
  refine (ahead_any _ b s _ _ _ _ _ _ hT2.pen.blk).mono ?_
  rintro e w2 ⟨rfl, n2, rfl⟩
  go_wp2_with fail
  have hcd : Hid (cd s (tr1 s p) ⟨#[]⟩ = cd s (tr1 s p) ⟨#[]⟩) := rfl
  clear f1 fb fq fbl fql fne fne' c1 z1 hT1
  have hT3 := hT2.drewN n2
  clear hT2
  go_loopg [5] (s.size + 1 - (tr1 s p).i) (fun g vc wr => ∃ (r : Pn) (a : ByteArray) (vr : Vs), TrS w b s vs q own wr r vr (trE s p) a 0 ⟨#[]⟩ ⟨#[]⟩ ∧ Inv s r ∧ Hid (cd s (tr1 s p) ⟨#[]⟩ = cd s r a) ∧ a.size ≤ 2 * r.i ∧ vc = .int .u8 (ahd s r.i r.bad).toNat ∧ s.size + 1 - r.i ≤ g)
  case atStart => exact ⟨tr1 s p, ⟨#[]⟩, vs, hT3, hI1, hcd, Nat.zero_le _, rfl, Nat.le_refl _⟩
  case round =>
    clear hT3 hcd hI1
    obtain ⟨r, a, vr, hT, hI, HC, ha, rfl, hg⟩ := hrel
    by_cases hc : isC (ahd s r.i r.bad) = true
    · obtain ⟨hrb, hri⟩ := isC_in s r.i r.bad hc
      have HG := cd_go s r a hI.i hc
      obtain ⟨f1, fb, fq, fbl, fql, fne, fne'⟩ := hT.facts
      have z1 := fb 1
      have hri2 := hI.i
      have hT4 := hT.inc
      have hI4 : Inv s { r with i := r.i + 1 } := hI.to _ _ (by simp) hri
      have hI5 := hI4.nm
      have H5 : Hid (Inv s (nmP s { r with i := r.i + 1 }) ∧ r.i + 1 ≤ (nmP s { r with i := r.i + 1 }).i) := hI5
      clear hI5
      have hc38 : (((ahd s r.i r.bad).toNat : Int) == 38) = true ∨ ((((ahd s r.i r.bad).toNat : Int) == 38) = false ∧ (((ahd s r.i r.bad).toNat : Int) == 33) = true) := by
        rcases (isC_iff _).1 hc with h | h
        · exact Or.inl h
        · cases e : (((ahd s r.i r.bad).toNat : Int) == 38)
          · exact Or.inr ⟨rfl, h⟩
          · exact Or.inl rfl
      clear hc
      rcases hc38 with h1 | ⟨h0, h1⟩
      all_goals
        go_wp2_with fail
        refine (name_any _ b s { r with i := r.i + 1 } vr hT4.pen hs hri (by have := hI.re; show r.re.length ≤ _; omega)).mono ?_
        rintro e w3 ⟨rfl, v3, hp3, he3⟩
        have hT5 := hT4.call hp3 he3
        clear f1 fb fq fbl fql fne fne' z1 hp3 he3
        obtain ⟨f1, fb, fq, fbl, fql, fne, fne'⟩ := hT5.facts
        have z2 := fq 2
        have c2 := hT5.tb.cells.2.2.1
        have hsz : a.size ≤ 2000000 := by omega
        go_wp2_with fail
        have hT6 := (hT5.set2 (a ++ ⟨#[ahd s r.i r.bad, nmC s { r with i := r.i + 1 }]⟩)).alloc (Obj.cells #[Value.int IntKind.u8 (ahd s r.i r.bad).toNat, Value.int IntKind.u8 (nmC s { r with i := r.i + 1 }).toNat] 5)
        refine (ahead_any _ b s _ _ _ _ _ _ hT6.pen.blk).mono ?_
        rintro e w4 ⟨rfl, n4, rfl⟩
        go_wp2_with fail
        go_roundg (s.size + 1 - (nmP s { r with i := r.i + 1 }).i)
        case measure => have := H5.out.2; omega
        case rel =>
          refine ⟨nmP s { r with i := r.i + 1 }, a ++ ⟨#[ahd s r.i r.bad, nmC s { r with i := r.i + 1 }]⟩, v3, hT6.drewN _, H5.out.1, HC.out.trans HG, ?_, rfl, Nat.le_refl _⟩
          have := H5.out.2
          rw [ByteArray.size_append]
          show a.size + 2 ≤ _
          omega
    · have hcf : isC (ahd s r.i r.bad) = false := by simpa using hc
      have HZ : Hid (trP s own p = trZ s own (trE s p) a r) := by
        show _ = _
        rw [trP, trC, tr2, HC.out, cd_stop s r a hcf]
      have h38 : (((ahd s r.i r.bad).toNat : Int) == 38) = false := by
        cases e : (((ahd s r.i r.bad).toNat : Int) == 38)
        · rfl
        · exact absurd ((isC_iff _).2 (Or.inl e)) hc
      have h33 : (((ahd s r.i r.bad).toNat : Int) == 33) = false := by
        cases e : (((ahd s r.i r.bad).toNat : Int) == 33)
        · rfl
        · exact absurd ((isC_iff _).2 (Or.inr e)) hc
      clear HC hc hcf
      have hri := hI.i
      go_wp2_with fail
      refine (take_at _ b s 62 62 62 62 rfl rfl r.i r.bad _ _ _ _ hT.pen.blk (by omega)).mono ?_
      rintro e w5 ⟨rfl, hp5, hf5⟩
      have hT7 : TrS w b s vs q own w5 (tr3 s r) vr (trE s p) a 0 ⟨#[]⟩ ⟨#[]⟩ := hT.call (hT.pen.move hp5 hf5) (Ev.of_fr hf5)
      have hI7 : Inv s (tr3 s r) := by
        have := tkI_bd s 62 62 r.i r.bad hri
        exact hI.to _ _ this.1 this.2
      clear hp5 hf5 hT h38 h33
      go_wp2_with fail
      refine (name_any _ b s (tr3 s r) vr hT7.pen hs hI7.i (by have := hI7.re; have := hI7.i; omega)).mono ?_
      rintro e w6 ⟨rfl, v6, hp6, he6⟩
      have hT8 := hT7.call hp6 he6
      have hI8 := hI7.nm.1
      have H8 : Hid ((tr3 s r).i ≤ (nmP s (tr3 s r)).i) := hI7.nm.2
      clear hT7 hp6 he6
      obtain ⟨f1, fb, fq, fbl, fql, fne, fne'⟩ := hT8.facts
      have z3 := fq 3
      have c3 := hT8.tb.cells.2.2.2.1
      go_wp2_with fail
      have hT9 := hT8.set3 (nmC s (tr3 s r))
      refine (ahead_any _ b s _ _ _ _ _ _ hT9.pen.blk).mono ?_
      rintro e w7 ⟨rfl, n7, rfl⟩
      have hTa := hT9.drewN n7
      clear hT9 hT8 f1 fb fq fbl fql fne fne' z3 c3
      generalize hW8 : (w6.setCell ⟨q, 3, none⟩ (Value.int IntKind.u8 (nmC s (tr3 s r)).toNat)).drewN n7 = w8 at hTa
      clear hW8
      generalize hr4 : nmP s (tr3 s r) = r4 at hTa hI8 H8
      have Hr4 : Hid (nmP s (tr3 s r) = r4) := hr4
      clear hr4
      generalize htg : nmC s (tr3 s r) = tg at hTa
      have Htg : Hid (nmC s (tr3 s r) = tg) := htg
      clear htg
      go_upto_region 12 with fail
      go_cut [58] (fun s58 wc => s58 = .bool (isM (ahd s r4.i r4.bad)) ∧ wc = w8)
      case first =>
        cases e1 : (((ahd s r4.i r4.bad).toNat : Int) == 126)
        · cases e2 : (((ahd s r4.i r4.bad).toNat : Int) == 42)
          · have HB : Hid (isM (ahd s r4.i r4.bad) = false) := by
              show _ = _
              cases e : isM (ahd s r4.i r4.bad)
              · rfl
              · rcases (isM_iff _).1 e with h | h
                · rw [e1] at h; exact h.symm
                · rw [e2] at h; exact h.symm
            go_wp2_with fail
            go_meet
            exact ⟨by rw [HB.out], rfl⟩
          · have HB : Hid (isM (ahd s r4.i r4.bad) = true) := (isM_iff _).2 (Or.inr e2)
            go_wp2_with fail
            go_meet
            exact ⟨by rw [HB.out], rfl⟩
        · have HB : Hid (isM (ahd s r4.i r4.bad) = true) := (isM_iff _).2 (Or.inl e1)
          go_wp2_with fail
          go_meet
          exact ⟨by rw [HB.out], rfl⟩
      case rest =>
        obtain ⟨rfl, rfl⟩ := hcut
        go_upto_if 58 with fail
        go_cut [5] (fun s5 wc => ∃ vm, TrS w b s vs q own wc (tr5 s r4 tg) vm (trE s p) a tg (trM s r4) ⟨#[]⟩)
        case first =>
          by_cases hm : isM (ahd s r4.i r4.bad) = true
          · obtain ⟨hrb4, hri4⟩ := isM_in s r4.i r4.bad hm
            have HM : Hid (tr5 s r4 tg = { r4 with ma := r4.ma ++ [⟨tg, r4.i⟩], i := r4.i + 1 } ∧ trM s r4 = ⟨#[ahd s r4.i r4.bad]⟩) := ⟨by rw [tr5, if_pos hm], by rw [trM, if_pos hm]⟩
            obtain ⟨f1, fb, fq, fbl, fql, fne, fne'⟩ := hTa.facts
            have c3 := hTa.tb.cells.2.2.2.1
            obtain ⟨-, -, -, -, -, -, d6, -⟩ := hTa.pen.blk.cells
            have z6 := fb 6
            have hma := hI8.ma
            have hi8 := hI8.i
            rw [hm]
            go_upto_region 13 with fail
            go_cut [5] (fun s5 wx => s5 = .int .u8 (ahd s r4.i r4.bad).toNat ∧ ∃ vm, TrS w b s vs q own wx { r4 with ma := r4.ma ++ [⟨tg, r4.i⟩] } vm (trE s p) a tg ⟨#[]⟩ ⟨#[]⟩)
            case first =>
              go_region_law (refine step_append1 rfl (.tmp 64) (.tmp 72) 46 rfl 138 2 16 elemRef v6.v6 r4.ma.length (r4.ma.flatMap RfR.cells) (by simp [Act.eval, Act.put]) (by exact ((hTa.pen.drew).alloc _).r6) ⟨wc.heap.size, 0, none⟩ 1 (RfR.cells ⟨tg, r4.i⟩) (by simp [Act.eval, Act.put]) rfl (by exact cell_two_new _ _ _ _) (by intro u hu; simp [RfR.cells] at hu; rcases hu with rfl | rfl <;> rfl) (by unfold maxLen; omega) (by omega) ?_; intro g cap w9 hrow hgrow hgo; obtain ⟨t9, p9⟩ := ((hTa.drew).alloc _).grow6 hgrow; have k6 := p9.cells.2.2.2.2.2.2.1; have kz6 := p9.cells.2.2.2.2.2.2.2 6)
              all_goals
                go_wp2_with fail
                go_meet
                refine ⟨rfl, ?_⟩
                obtain ⟨q1, q2⟩ := ((hTa.pen.drew).alloc _).push6 ⟨tg, r4.i⟩ hrow hgrow hgo
                exact ⟨_, ((hTa.drew).alloc _).call q1 q2⟩
            case rest =>
              clear f1 fb fq fbl fql fne fne' c3 d6 z6
              obtain ⟨rfl, vm, hTm⟩ := hcut
              obtain ⟨f1, fb, fq, fbl, fql, fne, fne'⟩ := hTm.facts
              have c4 := hTm.tb.cells.2.2.2.2.1
              have z1 := fb 1
              have z4 := fq 4
              go_wp2_with fail
              go_meet
              exact ⟨vm, by rw [HM.out.1, HM.out.2]; exact ((hTm.set4 ⟨#[ahd s r4.i r4.bad]⟩).inc).alloc _⟩
          · have HM : Hid (tr5 s r4 tg = r4 ∧ trM s r4 = ⟨#[]⟩) := ⟨by rw [tr5, if_neg hm], by rw [trM, if_neg hm]⟩
            rw [show isM (ahd s r4.i r4.bad) = false by simpa using hm]
            go_wp2_with fail
            go_meet
            exact ⟨v6, by rw [HM.out.1, HM.out.2]; exact hTa⟩
        case rest =>
          clear hTa
          obtain ⟨vm, hTm⟩ := hcut
          have hI9 : Inv s (tr5 s r4 tg) := hI8.t5 tg
          have HZ2 : Hid (trP s own p = { tr6 s (tr5 s r4 tg) with tr := (tr5 s r4 tg).tr ++ [⟨own, trE s p, a, tg, trM s r4, dgS s (tr5 s r4 tg).i (tr5 s r4 tg).bad⟩] }) := by
            show _ = _
            rw [HZ.out, trZ, Hr4.out, Htg.out]
          clear HZ Hr4 Htg
          generalize tr5 s r4 tg = r5 at *
          generalize trM s r4 = mk at *
          go_wp2_with fail
          refine (digits_any _ b s _ _ _ _ _ _ hTm.pen.blk hs hI9.i).mono ?_
          rintro e wa ⟨rfl, hpa, hfa⟩
          have hTn : TrS w b s vs q own wa (tr6 s r5) vm (trE s p) a tg mk ⟨#[]⟩ := hTm.call (hTm.pen.move hpa hfa) (Ev.of_fr hfa)
          have hI10 : Inv s (tr6 s r5) := by
            have := dgI_bd s r5.i r5.bad hI9.i
            exact hI9.to _ _ this.1 this.2
          clear hpa hfa hTm
          have hTo := hTn.set5 (dgS s r5.i r5.bad)
          obtain ⟨f1, fb, fq, fbl, fql, fne, fne'⟩ := hTn.facts
          obtain ⟨-, -, -, -, d4, -⟩ := hTn.pen.blk.cells
          obtain ⟨t0, t1, t2, t3, t4, t5, -⟩ := hTn.tb.cells
          have z4 := fb 4
          have z5 := fq 5
          have htr := hI10.tr
          have hi10 := hI10.i
          clear hTn fb fq
          go_upto_region 17 with fail
          go_region_law (refine step_append1 rfl (.tmp 96) (.tmp 98) 45 rfl 96 6 72 elemTrans vm.v4 (tr6 s r5).tr.length ((tr6 s r5).tr.flatMap TrR.cells) (by simp [Act.eval, Act.put]) (by exact ((hTo.pen.drew).alloc _).r4) ⟨wa.heap.size, 0, none⟩ 1 (TrR.cells ⟨own, trE s p, a, tg, mk, dgS s r5.i r5.bad⟩) (by simp [Act.eval, Act.put]) rfl (by exact cells_new (Blk.new' _ _ _ _ (by simp))) (by intro u hu; simp [TrR.cells] at hu; rcases hu with rfl | rfl | rfl | rfl | rfl | rfl <;> rfl) (by unfold maxLen; omega) (by omega) ?_; intro g cap w9 hrow hgrow hgo; obtain ⟨tz, pz⟩ := ((hTo.drew).alloc _).grow4 hgrow; have k4 := pz.cells.2.2.2.2.1; have kz4 := pz.cells.2.2.2.2.2.2.2 4)
          all_goals
            go_wp2_with fail
            go_end0
            obtain ⟨q1, q2⟩ := ((hTo.pen.drew).alloc _).push4 ⟨own, trE s p, a, tg, mk, dgS s r5.i r5.bad⟩ hrow hgrow hgo
            exact ⟨rfl, _, by rw [HZ2.out]; exact q1, ((hTo.drew).alloc _).evo.trans q2⟩

theorem StR.len (x : StR) : x.cells.length = 8 := rfl
theorem RfR.len (x : RfR) : x.cells.length = 2 := rfl

theorem PenV.poke {w : World} {b : Nat} {s : ByteArray} {p : Pn} {vs : Vs} {g c : Nat} (h : PenV w b s p vs) (hv : vs.v3 = .slice (some ⟨g, 0, none⟩) p.st.length c) (j : Nat) (v : Value) (st' : List StR)
  (hl : st'.length = p.st.length) (hst : st'.flatMap StR.cells = (p.st.flatMap StR.cells).set j v) (hj : j < p.st.length * 8) :
  PenV (w.setCell ⟨g, j, none⟩ v) b s { p with st := st' } vs ∧ Ev b vs vs w (w.setCell ⟨g, j, none⟩ v) := by
 have ho : vs.v3.ownBlock = some g := by rw [hv]; rfl
 have f : Fr (· = g) w (w.setCell ⟨g, j, none⟩ v) := Fr.setCell _ _ _ _ rfl
 refine ⟨{ blk := Blk.fr h.blk f (fun e => h.n3 (by rw [ho, e])), r3 := ?_, r4 := row_fr h.r4 f (fun k hk e => h.d34 g ho (by rw [hk, e])), r5 := row_fr h.r5 f (fun k hk e => h.d35 g ho (by rw [hk, e])), r6 := row_fr h.r6 f (fun k hk e => h.d36 g ho (by rw [hk, e])), n3 := h.n3, n4 := h.n4, n5 := h.n5, n6 := h.n6, d34 := h.d34, d35 := h.d35, d36 := h.d36, d45 := h.d45, d46 := h.d46, d56 := h.d56 }, ⟨f.mono (fun k _ e => by unfold OwnS; simp [ho, e]), fun _ _ h => h⟩⟩
 have h3 := h.r3
 rw [hv] at h3 ⊢
 have := row_set h3 j v hj
 rw [hst]
 show World.ownsRow _ _ _ _ _ st'.length _
 rw [hl]
 exact this

def StC (s : ByteArray) (f : Nat) : Prop := ∀ (w : World) (b : Nat) (p : Pn) (vs : Vs) (up : Int) (depth : Nat) (dI : Int), dI = depth → PenV w b s p vs → Inv s p → p.bad < 0 → depth ≤ p.i + 1 → s.size - p.i < f →
 Calls Tryz.prog 33 #[.pointer (some ⟨b, 0, none⟩), .int .i64 up, .int .i64 dI] w fun e w' => e = .returned (.tuple #[]) ∧ ∃ vs', PenV w' b s (stF s f p up depth) vs' ∧ Ev b vs vs' w w'

theorem prefix_get {α : Type} {l m : List α} (h : l <+: m) {i : Nat} {x : α} (hx : l[i]? = some x) : m[i]? = some x := by
 obtain ⟨t, rfl⟩ := h
 rw [List.getElem?_append_left (List.getElem?_eq_some_iff.1 hx).1]
 exact hx

set_option maxRecDepth 100000 in
set_option maxHeartbeats 1000000 in
theorem inner_any (s : ByteArray) (hs : s.size ≤ 1000000) (f : Nat) (hS : StC s f) (w : World) (b : Nat) (p : Pn) (vs : Vs) (own least : Nat) (fin : UInt8) (x : StR)
    (hp : PenV w b s p vs) (hv : Inv s p) (hn : p.i < s.size) (hx : p.st[own]? = some x) (hd : x.depth ≤ p.i) (hl : least ≤ 2) (hf : s.size - (p.i + 1) < f) :
    Calls Tryz.prog 51 #[.pointer (some ⟨b, 0, none⟩), .int .i64 own, .int .u8 fin.toNat, .int .i64 least] w fun e w' => e = .returned (.tuple #[]) ∧ ∃ vs', PenV w' b s (inP s (fun q => stF s f q (own : Nat) (x.depth + 1)) fin least p) vs' ∧ Ev b vs vs' w w' := by
  obtain ⟨c0, c1, c2, -, -, -, -, hfz⟩ := hp.blk.cells
  have hz1 := hfz 1
  have hbl := Blk.lt hp.blk
  clear hfz
  have hG : ∀ q, Inv s q → q.bad < 0 → p.i + 1 ≤ q.i → Goes s q (stF s f q (own : Nat) (x.depth + 1)) := fun q hq hqb hqi => stF_goes s f q _ _ hq hqb (by omega)
  have HG : Hid (∀ q, Inv s q → q.bad < 0 → p.i + 1 ≤ q.i → Goes s q (stF s f q (own : Nat) (x.depth + 1))) := hG
  clear hG
  have HS : Hid (StC s f) := hS
  clear hS
  have HX : Hid (p.st[own]? = some x) := hx
  clear hx
  have hI0 : Inv s { p with i := p.i + 1 } := hv.to _ _ (by simp) hn
  have hp0 := hp.step (p.i + 1) rfl
  go_enter Tryz.func51, Tryz.ntmps51
  go_wp2_with fail
  refine (ahead_any _ b s _ _ _ _ _ _ hp0.blk).mono ?_
  rintro e w1 ⟨rfl, n1, rfl⟩
  go_wp2_with fail
  have hp1 := hp0.drewN n1
  have he1 := ((Ev.refl b vs w).setOwn 1 (.int .i64 ((p.i : Int) + 1))).drewN n1
  clear c0 c1 c2 hz1 hbl hp0
  go_loopg [8, 9] (s.size + 2 - (p.i + 1)) (fun gk vn vc wr => ∃ (r : Pn) (vr : Vs) (n : Nat), PenV wr b s r vr ∧ Ev b vs vr w wr ∧ Inv s r ∧ p.i + 1 ≤ r.i ∧ p.st <+: r.st ∧ n ≤ 2000000 ∧ vn = .int .i64 n ∧ vc = .int .u8 (ahd s r.i r.bad).toNat ∧ Hid (inL s (fun q => stF s f q (own : Nat) (x.depth + 1)) fin least 0 { p with i := p.i + 1 } = inL s (fun q => stF s f q (own : Nat) (x.depth + 1)) fin least n r) ∧ n ≤ r.i + 1 ∧ (r.bad < 0 → n ≤ r.i ∧ s.size + 2 - r.i ≤ gk) ∧ 1 ≤ gk)
  case atStart => exact ⟨_, vs, 0, hp1, he1, hI0, Nat.le_refl _, List.prefix_refl _, by omega, rfl, rfl, rfl, by omega, fun _ => ⟨by omega, Nat.le_refl _⟩, by omega⟩
  case round =>
    clear hp1 he1 hI0
    obtain ⟨r, vr, n, hpr, her, hIr, hri, hpre, hn2, rfl, rfl, HL, hn3, hn4, hg1⟩ := hrel
    have hri2 := hIr.i
    by_cases hgo : r.bad < 0 ∧ (n < least ∨ ahd s r.i r.bad ≠ fin)
    · have HL2 : Hid (inL s (fun q => stF s f q (own : Nat) (x.depth + 1)) fin least 0 { p with i := p.i + 1 } = inL s (fun q => stF s f q (own : Nat) (x.depth + 1)) fin least (n + 1) (stF s f r (own : Nat) (x.depth + 1))) :=
        HL.out.trans (inL_go s _ fin least (p.i + 1) n HG.out r hIr hri hgo)
      have hgs := HG.out r hIr hgo.1 hri
      have hn5 := hn4 hgo.1
      have hxr := prefix_get hpre HX.out
      have hlen : own < r.st.length := (List.getElem?_eq_some_iff.1 hxr).1
      obtain ⟨gg, cc, hv3, hcc⟩ := row_form hpr.r3 (by omega)
      have hcell : wr.cell? ⟨gg, own * 8 + 3, none⟩ = some (.int .i64 x.depth) := by
        have h3 := hpr.r3
        rw [hv3] at h3
        exact (row_cell h3 (own * 8 + 3) (.int .i64 x.depth) (by rw [flat_get StR.cells 8 StR.len r.st own 3 x hxr (by omega)]; rfl)).1
      obtain ⟨d0, d1, d2, d3, -⟩ := hpr.blk.cells
      rw [hv3] at d3
      have hrst := hIr.st
      have HB : Hid (r.bad < 0 ∧ (n < least ∨ ahd s r.i r.bad ≠ fin)) := hgo
      have hb := hgo.1
      have hcase : ((n : Int) < least) ∨ (¬ ((n : Int) < least) ∧ (((ahd s r.i r.bad).toNat : Int) != fin.toNat) = true) := by
        rcases hgo.2 with h | h
        · exact Or.inl (by omega)
        · by_cases e : (n : Int) < least
          · exact Or.inl e
          · refine Or.inr ⟨e, ?_⟩
            rw [bne_iff_ne]
            intro h2
            exact h (UInt8.toNat_inj.1 (by omega))
      clear hgo HL hxr hn4
      have HGs : Hid (Goes s r (stF s f r (own : Nat) (x.depth + 1))) := hgs
      clear hgs
      rcases hcase with h1 | ⟨h0, h1⟩
      all_goals
        go_wp2_with fail
        refine (HS.out _ b r vr own (x.depth + 1) ((x.depth : Int) + 1) (by omega) hpr hIr hb (by omega) (by omega)).mono ?_
        rintro e w2 ⟨rfl, v2, hp2, he2⟩
        go_wp2_with fail
        refine (ahead_any _ b s _ _ _ _ _ _ hp2.blk).mono ?_
        rintro e w3 ⟨rfl, n3, rfl⟩
        go_wp2_with fail
        have hgs := HGs.out
        have hgi := hgs.i
        have hgz := hgs.inv.i
        go_roundg (gk - 1)
        case measure => omega
        case rel => exact ⟨_, v2, n + 1, hp2.drewN _, (her.trans he2).drewN _, hgs.inv, by omega, List.IsPrefix.trans hpre hgs.st, by omega, by go_num, rfl, HL2, by omega, fun hb' => by have := hgs.on hb'; omega, by omega⟩
    · have HL2 : Hid (inP s (fun q => stF s f q (own : Nat) (x.depth + 1)) fin least p = tkP s fin fin r) := by
        show _ = _
        rw [inP, HL.out, inL_stop s _ fin least n r hgo]
      obtain ⟨d0, d1, d2, -⟩ := hpr.blk.cells
      have hcase : (decide (r.bad < 0) = false) ∨ (r.bad < 0 ∧ decide (n < least) = false ∧ (((ahd s r.i r.bad).toNat : Int) != fin.toNat) = false) := by
        by_cases hb : r.bad < 0
        · refine Or.inr ⟨hb, ?_, ?_⟩
          · simp; exact Nat.le_of_not_lt (fun h => hgo ⟨hb, Or.inl h⟩)
          · cases e : (((ahd s r.i r.bad).toNat : Int) != fin.toNat)
            · rfl
            · rw [bne_iff_ne] at e
              exact absurd ⟨hb, Or.inr (fun h => e (by rw [h]))⟩ hgo
        · exact Or.inl (by simpa using hb)
      clear hgo HL
      rcases hcase with h0 | ⟨h0, h1, h2⟩
      all_goals
        go_wp2_with fail
        refine (take_any _ b s fin fin r.i r.bad _ _ _ _ hpr.blk (by omega)).mono ?_
        rintro e w4 ⟨rfl, hp4, hf4⟩
        go_wp2_with fail
        go_end0
        exact ⟨rfl, vr, by rw [HL2.out]; exact hpr.move hp4 hf4, her.trans (Ev.of_fr hf4)⟩
end Go.Proofs.YtmolmbeeoecnfaaGreatDoor
