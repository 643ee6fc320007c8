/- Own work: Pen6. -/
import Derived.Test.YtmolmbeeoecnfaaGreatDoorF09
import Derived.BigRegion
/- Own work: the walk of the document's reader: state. -/
namespace Go.Proofs.YtmolmbeeoecnfaaGreatDoor
open Go.RowKit Go.BigFrame
set_option linter.unusedVariables false
set_option linter.unusedSimpArgs false

def xBlk (w : World) (q : Nat) (x : StR) : Prop := Blk w q #[.int .u8 x.name.toNat, .int .i64 x.at_, .int .i64 x.parent, .int .i64 x.depth, .int .i64 x.kind, .int .i64 x.end_, .string x.enter, .string x.leave] 104
theorem xBlk.cells {w : World} {q : Nat} {x : StR} (h : xBlk w q x) :
  w.cell? ⟨q, 0, none⟩ = some (.int .u8 x.name.toNat) ∧ w.cell? ⟨q, 1, none⟩ = some (.int .i64 x.at_) ∧ w.cell? ⟨q, 2, none⟩ = some (.int .i64 x.parent) ∧ w.cell? ⟨q, 3, none⟩ = some (.int .i64 x.depth) ∧
  w.cell? ⟨q, 4, none⟩ = some (.int .i64 x.kind) ∧ w.cell? ⟨q, 5, none⟩ = some (.int .i64 x.end_) ∧ w.cell? ⟨q, 6, none⟩ = some (.string x.enter) ∧ w.cell? ⟨q, 7, none⟩ = some (.string x.leave) ∧ ∀ o, w.frozen? ⟨q, o, none⟩ = false := by
 refine ⟨?_, ?_, ?_, ?_, ?_, ?_, ?_, ?_, Blk.frozen h⟩ <;> (rw [Blk.cell h]; rfl)

structure XS (w0 : World) (b : Nat) (s : ByteArray) (vs0 : Vs) (q : Nat) (w : World) (p : Pn) (vs : Vs) (x : StR) : Prop where
 pen : PenV w b s p vs
 evo : Ev b vs0 vs w0 w
 xb : xBlk w q x
 no : ¬ OwnS b vs q
 new : w0.heap.size ≤ q
section
variable {w0 w : World} {b : Nat} {s : ByteArray} {vs0 vs : Vs} {q : Nat} {p : Pn} {x : StR}
theorem XS.call {w' : World} {p' : Pn} {vs' : Vs} (h : XS w0 b s vs0 q w p vs x) (hp : PenV w' b s p' vs') (he : Ev b vs vs' w w') : XS w0 b s vs0 q w' p' vs' x :=
 ⟨hp, h.evo.trans he, (he.keeps h.xb h.no).1, (he.keeps h.xb h.no).2, h.new⟩
theorem XS.drew (h : XS w0 b s vs0 q w p vs x) : XS w0 b s vs0 q w.drew p vs x := h.call h.pen.drew (Ev.refl _ _ _).drew
theorem XS.alloc (h : XS w0 b s vs0 q w p vs x) (o : Obj) : XS w0 b s vs0 q (w.alloc o) p vs x := h.call (h.pen.alloc o) ((Ev.refl _ _ _).alloc o)
theorem XS.set6 (h : XS w0 b s vs0 q w p vs x) (v : ByteArray) : XS w0 b s vs0 q (w.setCell ⟨q, 6, none⟩ (.string v)) p vs { x with enter := v } :=
 ⟨h.pen.setOther _ _ h.no, h.evo.setNew _ _ h.new, Blk.set h.xb 6 _, h.no, h.new⟩
theorem XS.set7 (h : XS w0 b s vs0 q w p vs x) (v : ByteArray) : XS w0 b s vs0 q (w.setCell ⟨q, 7, none⟩ (.string v)) p vs { x with leave := v } :=
 ⟨h.pen.setOther _ _ h.no, h.evo.setNew _ _ h.new, Blk.set h.xb 7 _, h.no, h.new⟩
theorem XS.facts (h : XS w0 b s vs0 q w p vs x) : (∀ o, w.frozen? ⟨b, o, none⟩ = false) ∧ (∀ o, w.frozen? ⟨q, o, none⟩ = false) ∧ b < w.heap.size ∧ q < w.heap.size ∧ b ≠ q ∧ q ≠ b :=
 ⟨h.pen.blk.cells.2.2.2.2.2.2.2, Blk.frozen h.xb, Blk.lt h.pen.blk, Blk.lt h.xb, fun e => h.no (Or.inl e.symm), fun e => h.no (Or.inl e)⟩
theorem XS.grow3 {w' : World} (h : XS w0 b s vs0 q w p vs x) (hg : w.grownBy w' vs.v3.ownBlock) : xBlk w' q x ∧ PenB w' b s p.i p.bad vs.v3 vs.v4 vs.v5 vs.v6 :=
 ⟨Blk.fr h.xb (Fr.grown (fun j => vs.v3.ownBlock = some j) hg (fun _ e => e)) (fun e => h.no (by unfold OwnS; simp [e])), Blk.fr h.pen.blk (Fr.grown (fun j => vs.v3.ownBlock = some j) hg (fun _ e => e)) h.pen.n3⟩
end

theorem acts_at (w : World) (b : Nat) (s : ByteArray) (sign : UInt8) (l : Int) (hl : l = sign.toNat) (i : Nat) (bad : Int) (v3 v4 v5 v6 : Value) (hp : PenB w b s i bad v3 v4 v5 v6) (hs : s.size ≤ 1000000) (hn : i ≤ s.size) (h0 : sign ≠ 0) :
  Calls Tryz.prog 49 #[.pointer (some ⟨b, 0, none⟩), .int .u8 l] w fun e w' => e = .returned (.string (acS s sign i bad)) ∧
   PenB w' b s (acI s sign i bad) (acB s sign i bad) v3 v4 v5 v6 ∧ Fr (· = b) w w' := by
 subst hl; exact acts_any w b s sign i bad v3 v4 v5 v6 hp hs hn h0

theorem inner_at (s : ByteArray) (hs : s.size ≤ 1000000) (f : Nat) (hS : StC s f) (w : World) (b : Nat) (p : Pn) (vs : Vs) (own least : Nat) (mI : Int) (hm : mI = least) (fin : UInt8) (lI : Int) (hl' : lI = fin.toNat) (x : StR)
  (hp : PenV w b s p vs) (hv : Inv s p) (hn : p.i < s.size) (hx : p.st[own]? = some x) (hd : x.depth ≤ p.i) (hl : least ≤ 2) (hf : s.size - (p.i + 1) < f) :
  Calls Tryz.prog 51 #[.pointer (some ⟨b, 0, none⟩), .int .i64 own, .int .u8 lI, .int .i64 mI] w fun e w' => e = .returned (.tuple #[]) ∧ ∃ vs', PenV w' b s (inP s (fun q => stF s f q (own : Nat) (x.depth + 1)) fin least p) vs' ∧ Ev b vs vs' w w' := by
 subst hm; subst hl'; exact inner_any s hs f hS w b p vs own least fin x hp hv hn hx hd hl hf

theorem modify_get {α : Type} (f : α → α) (l : List α) (n : Nat) (x : α) (h : l[n]? = some x) : (l.modify n f)[n]? = some (f x) := by
 rw [List.getElem?_modify]; simp [h]

theorem PenV.kind {w : World} {b : Nat} {s : ByteArray} {p : Pn} {vs : Vs} {g c own : Nat} {x : StR} (h : PenV w b s p vs) (hv : vs.v3 = .slice (some ⟨g, 0, none⟩) p.st.length c) (hx : p.st[own]? = some x) (k : Nat) (kI : Int) (hk : kI = k) :
  PenV (w.setCell ⟨g, own * 8 + 4, none⟩ (.int .i64 kI)) b s (setK p own k) vs ∧ Ev b vs vs w (w.setCell ⟨g, own * 8 + 4, none⟩ (.int .i64 kI)) := by
 subst hk
 have hl := (List.getElem?_eq_some_iff.1 hx).1
 exact h.poke hv (own * 8 + 4) _ _ (by simp) (flat_set StR.cells 8 StR.len _ 4 (by decide) _ p.st own (fun y _ => rfl) hl) (by omega)
theorem PenV.end {w : World} {b : Nat} {s : ByteArray} {p : Pn} {vs : Vs} {g c own : Nat} {x : StR} (h : PenV w b s p vs) (hv : vs.v3 = .slice (some ⟨g, 0, none⟩) p.st.length c) (hx : p.st[own]? = some x) :
  PenV (w.setCell ⟨g, own * 8 + 5, none⟩ (.int .i64 p.st.length)) b s (st6 own p) vs ∧ Ev b vs vs w (w.setCell ⟨g, own * 8 + 5, none⟩ (.int .i64 p.st.length)) := by
 have hl := (List.getElem?_eq_some_iff.1 hx).1
 exact h.poke hv (own * 8 + 5) _ _ (by simp) (flat_set StR.cells 8 StR.len _ 5 (by decide) _ p.st own (fun y _ => rfl) hl) (by omega)
theorem PenV.stCell {w : World} {b : Nat} {s : ByteArray} {p : Pn} {vs : Vs} {g c own : Nat} {x : StR} (h : PenV w b s p vs) (hv : vs.v3 = .slice (some ⟨g, 0, none⟩) p.st.length c) (hx : p.st[own]? = some x) (o : Nat) (v : Value) (ho : o < 8) (hvv : x.cells[o]? = some v) :
  w.cell? ⟨g, own * 8 + o, none⟩ = some v ∧ w.frozen? ⟨g, own * 8 + o, none⟩ = false := by
 have h3 := h.r3
 rw [hv] at h3
 exact row_cell h3 (own * 8 + o) v (by rw [flat_get StR.cells 8 StR.len p.st own o x hx ho]; exact hvv)

theorem st5_ok (s : ByteArray) (g : Pn → Pn) (own : Nat) (q : Pn) (h : Inv s q) (hG : ∀ r, Inv s r → r.bad < 0 → q.i + 1 ≤ r.i → Goes s r (g r)) :
  Inv s (st5 s g own q) ∧ q.i ≤ (st5 s g own q).i ∧ q.st.length ≤ (st5 s g own q).st.length := by
 unfold st5
 split
 ·rename_i hc
  have hin := (ahd_pos s q.i q.bad (by rw [hc]; decide)).2.1
  have h5 := inP_ok s g 41 1 (setK q own 1) (setK_inv h _ _) hin hG
  have h6 := h5.2.2.length_le
  exact ⟨h5.1, Nat.le_of_lt h5.2.1, by simpa [setK] using h6⟩
 ·split
  ·rename_i hc
   have hin := (ahd_pos s q.i q.bad (by rw [hc]; decide)).2.1
   have h5 := inP_ok s g 93 2 (setK q own 2) (setK_inv h _ _) hin hG
   have h6 := h5.2.2.length_le
   exact ⟨h5.1, Nat.le_of_lt h5.2.1, by simpa [setK] using h6⟩
  ·exact ⟨h, Nat.le_refl _, Nat.le_refl _⟩

set_option maxRecDepth 100000 in
set_option maxHeartbeats 2000000 in
theorem state_step (s : ByteArray) (hs : s.size ≤ 1000000) (f : Nat) (hS : StC s f) : StC s (f + 1) := by
  intro w b p vs up depth dI hdI hp hv hb hd hf
  subst hdI
  have HS : Hid (StC s f) := hS
  clear hS
  obtain ⟨c0, c1, c2, -, -, -, -, hfz⟩ := hp.blk.cells
  have hz1 := hfz 1
  have hbl := Blk.lt hp.blk
  clear hfz
  have hi := hv.i
  have hst := hv.st
  go_enter Tryz.func33, Tryz.ntmps33
  go_wp2_with fail
  refine (take_at _ b s 65 90 65 90 rfl rfl p.i p.bad _ _ _ _ hp.blk (by omega)).mono ?_
  rintro e w1 ⟨rfl, hp1, hf1⟩
  have hpv : PenV w1 b s (tkP s 65 90 p) vs := hp.move hp1 hf1
  have hev : Ev b vs vs w w1 := Ev.of_fr hf1
  obtain ⟨d0, d1, d2, d3, -⟩ := hp1.cells
  obtain ⟨va, vc, hv3⟩ := row_len hpv.r3
  have hv3' : vs.v3 = .slice va p.st.length vc := hv3
  rw [hv3'] at d3
  have hbl1 := Blk.lt hp1
  clear c0 c1 c2 hz1 hbl
  by_cases hb1 : 0 ≤ tkB s 65 90 p.i p.bad
  · have HE : Hid (stF s (f + 1) p up depth = tkP s 65 90 p) := by show _ = _; rw [stF, if_pos (show 0 ≤ (tkP s 65 90 p).bad from hb1)]
    go_wp2_with fail
    exact bodyPost_ret (v := .tuple #[]) (by simp [results, Tryz.results33, go_sem]) rfl ⟨rfl, vs, by rw [HE.out]; exact hpv, hev⟩
  · have HE : Hid (stF s (f + 1) p up depth = trL s p.st.length (st6 p.st.length (st5 s (fun q => stF s f q (p.st.length : Nat) (depth + 1)) p.st.length (st4 s p up depth)))) := by show _ = _; rw [stF, if_neg (show ¬ 0 ≤ (tkP s 65 90 p).bad from hb1)]
    have hI1 := tkP_inv hv 65 90
    have hb1' : decide (0 ≤ tkB s 65 90 p.i p.bad) = false := by simpa using hb1
    have hbn : tkB s 65 90 p.i p.bad < 0 := by omega
    go_wp2_with fail
    have hX1 : XS w b s vs w1.heap.size (w1.alloc (Obj.cells #[Value.int IntKind.u8 (tkC s 65 90 p.i p.bad).toNat, Value.int IntKind.i64 p.i, Value.int IntKind.i64 up, Value.int IntKind.i64 depth, Value.int IntKind.i64 0, Value.int IntKind.i64 0, Value.string ⟨#[]⟩, Value.string ⟨#[]⟩] 104)) (tkP s 65 90 p) vs ⟨tkC s 65 90 p.i p.bad, p.i, up, depth, 0, 0, ⟨#[]⟩, ⟨#[]⟩⟩ :=
      ⟨hpv.alloc _, hev.alloc _, Blk.new _ _ _, fun h => Nat.lt_irrefl _ (hpv.own_lt h), hev.size⟩
    refine (acts_at _ b s 43 43 rfl _ _ _ _ _ _ hX1.pen.blk hs hI1.1.i (by decide)).mono ?_
    rintro e w2 ⟨rfl, hp2, hf2⟩
    have hX2 : XS w b s vs w1.heap.size w2 (acP s 43 (tkP s 65 90 p)) vs ⟨tkC s 65 90 p.i p.bad, p.i, up, depth, 0, 0, ⟨#[]⟩, ⟨#[]⟩⟩ := hX1.call (hX1.pen.move hp2 hf2) (Ev.of_fr hf2)
    have hI2 := acP_inv hI1.1 43 (by decide)
    generalize hq : w1.heap.size = q at hX2
    clear hX1 hp2 hf2 hpv hev d0 d1 d2 d3 hp1 hf1 hbl1 hv3 hv3' hb1 hb1' hq
    obtain ⟨fb, fq, fbl, fql, fne, fne'⟩ := hX2.facts
    have z6 := fq 6
    have c6 := hX2.xb.cells.2.2.2.2.2.2.1
    go_wp2_with fail
    have hX3 := hX2.set6 (acS s 43 (tkP s 65 90 p).i (tkP s 65 90 p).bad)
    refine (acts_at _ b s 45 45 rfl _ _ _ _ _ _ hX3.pen.blk hs hI2.1.i (by decide)).mono ?_
    rintro e w3 ⟨rfl, hp3, hf3⟩
    have hX4 : XS w b s vs q w3 (st3 s p) vs _ := hX3.call (hX3.pen.move hp3 hf3) (Ev.of_fr hf3)
    have hI3 := acP_inv hI2.1 45 (by decide)
    clear hX2 hX3 hp3 hf3 fb fq fbl fql fne fne' z6 c6
    have hX5 := hX4.set7 (acS s 45 (acP s 43 (tkP s 65 90 p)).i (acP s 43 (tkP s 65 90 p)).bad)
    obtain ⟨fb, fq, fbl, fql, fne, fne'⟩ := hX4.facts
    have z7 := fq 7
    have z3 := fb 3
    obtain ⟨x0, x1, x2, x3, x4, x5, x6, x7, -⟩ := hX4.xb.cells
    obtain ⟨-, -, -, d3, -⟩ := hX4.pen.blk.cells
    clear hX4 fb fq
    go_upto_region 7 with fail
    have hI4 : Inv s (st4 s p up depth) := by
      obtain ⟨a1, a2, a3, a4, a5⟩ := hI3.1
      refine ⟨a1, ?_, a3, a4, a5⟩
      show (p.st ++ [_]).length ≤ (st3 s p).i
      have l1 : p.i + 1 ≤ (tkP s 65 90 p).i := by
        have := (tkB_neg s 65 90 p.i p.bad hbn).2.2.1
        show p.i + 1 ≤ tkI s 65 90 p.i p.bad
        omega
      have l2 := hI2.2
      have l3 : (acP s 43 (tkP s 65 90 p)).i ≤ (st3 s p).i := hI3.2
      rw [List.length_append]
      simp only [List.length_cons, List.length_nil]
      omega
    have hd4 : p.i + 1 ≤ (st4 s p up depth).i := by
      have l1 : p.i + 1 ≤ (tkP s 65 90 p).i := by
        have := (tkB_neg s 65 90 p.i p.bad hbn).2.2.1
        show p.i + 1 ≤ tkI s 65 90 p.i p.bad
        omega
      have l2 := hI2.2
      have l3 : (acP s 43 (tkP s 65 90 p)).i ≤ (st3 s p).i := hI3.2
      show p.i + 1 ≤ (st3 s p).i
      omega
    have hx4 : Hid ((st4 s p up depth).st[p.st.length]? = some (stX s p up depth)) := by
      show (p.st ++ [_])[p.st.length]? = _
      simp
    have hpre4 : Hid (p.st <+: (st4 s p up depth).st) := List.prefix_append _ _
    go_cut [8] (fun s8 wx => s8 = .int .i64 p.st.length ∧ ∃ v4, PenV wx b s (st4 s p up depth) v4 ∧ Ev b vs v4 w wx)
    case first =>
      go_region_law (refine step_append1 rfl (.tmp 43) (.tmp 45) 44 rfl 104 8 80 elemState vs.v3 p.st.length (p.st.flatMap StR.cells) (by simp [Act.eval, Act.put]) (by exact ((hX5.pen.drew).alloc _).r3) ⟨w3.heap.size, 0, none⟩ 1 (StR.cells (stX s p up depth)) (by simp [Act.eval, Act.put]) rfl (by exact cells_new (Blk.new' _ _ _ _ (by simp))) (by intro u hu; simp [StR.cells] at hu; rcases hu with rfl | rfl | rfl | rfl | rfl | rfl | rfl | rfl <;> rfl) (by unfold maxLen; omega) (by omega) ?_; intro g cap w9 hrow hgrow hgo; obtain ⟨tz, pz⟩ := ((hX5.drew).alloc _).grow3 hgrow; have k3 := pz.cells.2.2.2.1; have kz3 := pz.cells.2.2.2.2.2.2.2 3)
      all_goals
        go_wp2_with fail
        go_meet
        obtain ⟨q1, q2⟩ := ((hX5.pen.drew).alloc _).push3 (stX s p up depth) hrow hgrow hgo
        exact ⟨rfl, _, q1, ((hX5.drew).alloc _).evo.trans q2⟩
    case rest =>
      obtain ⟨rfl, v4, hp4, he4⟩ := hcut
      clear hX5 hI1 hI2 hI3 x0 x1 x2 x3 x4 x5 x6 x7 z7 z3 d3 fbl fql fne fne' hst hi hbn hp
      have hxd : (stX s p up depth).depth = depth := rfl
      have hpl : p.st.length < (st4 s p up depth).st.length := (List.getElem?_eq_some_iff.1 hx4.out).1
      generalize hx : stX s p up depth = x at hx4 hxd
      generalize hr4 : st4 s p up depth = r4 at *
      clear hx hr4
      have hst4 := hI4.st
      have hi4 := hI4.i
      go_wp2_with fail
      refine (ahead_any _ b s _ _ _ _ _ _ hp4.blk).mono ?_
      rintro e w4 ⟨rfl, n4, rfl⟩
      have hp4' := hp4.drewN n4
      have he4' := he4.drewN n4
      clear hp4 he4
      generalize wc.drewN n4 = wd at hp4' he4'
      have hXD : Hid (x.depth = depth) := hxd
      clear hxd
      go_upto_if 53 with fail
      go_cut [7, 8] (fun s7 s8 wx => s8 = .int .i64 p.st.length ∧ ∃ v5, PenV wx b s (st5 s (fun q => stF s f q (p.st.length : Nat) (depth + 1)) p.st.length r4) v5 ∧ Ev b vs v5 w wx)
      case first =>
        obtain ⟨gg, cc, hv3, hcc⟩ := row_form hp4'.r3 (by omega)
        obtain ⟨-, -, -, d3, -⟩ := hp4'.blk.cells
        rw [hv3] at d3
        obtain ⟨k4, z4⟩ := hp4'.stCell hv3 hx4.out 4 _ (by omega) rfl
        by_cases e40 : ahd s r4.i r4.bad = 40
        · have hin := (ahd_pos s r4.i r4.bad (by rw [e40]; decide)).2.1
          have H5 : Hid (st5 s (fun q => stF s f q (p.st.length : Nat) (depth + 1)) p.st.length r4 = inP s (fun q => stF s f q (p.st.length : Nat) (x.depth + 1)) 41 1 (setK r4 p.st.length 1)) := by show _ = _; rw [st5, if_pos e40, hXD.out]
          have hk := hp4'.kind hv3 hx4.out 1 1 rfl
          have hxk := modify_get (fun x : StR => { x with kind := 1 }) r4.st p.st.length x hx4.out
          have HK : Hid _ := hk
          have HXK : Hid _ := hxk
          clear hk hxk
          rw [e40]
          go_wp2_with fail
          refine (inner_at s hs f HS.out _ b (setK r4 p.st.length 1) v4 p.st.length 1 1 rfl 41 41 rfl { x with kind := 1 } HK.out.1 (setK_inv hI4 _ _) hin HXK.out (by show x.depth ≤ r4.i; rw [hXD.out]; omega) (by omega) (by show s.size - (r4.i + 1) < f; omega)).mono ?_
          rintro e w5 ⟨rfl, v5, hp5, he5⟩
          go_wp2_with fail
          go_meet
          exact ⟨rfl, v5, by rw [H5.out]; exact hp5, (he4'.trans HK.out.2).trans he5⟩
        · have b40 : (((ahd s r4.i r4.bad).toNat : Int) == 40) = false := by
            rw [beq_eq_false_iff_ne]; intro h; exact e40 (UInt8.toNat_inj.1 (by show _ = 40; omega))
          by_cases e91 : ahd s r4.i r4.bad = 91
          · have hin := (ahd_pos s r4.i r4.bad (by rw [e91]; decide)).2.1
            have H5 : Hid (st5 s (fun q => stF s f q (p.st.length : Nat) (depth + 1)) p.st.length r4 = inP s (fun q => stF s f q (p.st.length : Nat) (x.depth + 1)) 93 2 (setK r4 p.st.length 2)) := by show _ = _; rw [st5, if_neg e40, if_pos e91, hXD.out]
            have hk := hp4'.kind hv3 hx4.out 2 2 rfl
            have hxk := modify_get (fun x : StR => { x with kind := 2 }) r4.st p.st.length x hx4.out
            have HK : Hid _ := hk
            have HXK : Hid _ := hxk
            clear hk hxk b40
            rw [e91]
            go_wp2_with fail
            refine (inner_at s hs f HS.out _ b (setK r4 p.st.length 2) v4 p.st.length 2 2 rfl 93 93 rfl { x with kind := 2 } HK.out.1 (setK_inv hI4 _ _) hin HXK.out (by show x.depth ≤ r4.i; rw [hXD.out]; omega) (by omega) (by show s.size - (r4.i + 1) < f; omega)).mono ?_
            rintro e w5 ⟨rfl, v5, hp5, he5⟩
            go_wp2_with fail
            go_meet
            exact ⟨rfl, v5, by rw [H5.out]; exact hp5, (he4'.trans HK.out.2).trans he5⟩
          · have H5 : Hid (st5 s (fun q => stF s f q (p.st.length : Nat) (depth + 1)) p.st.length r4 = r4) := by show _ = _; rw [st5, if_neg e40, if_neg e91]
            have b91 : (((ahd s r4.i r4.bad).toNat : Int) == 91) = false := by
              rw [beq_eq_false_iff_ne]; intro h; exact e91 (UInt8.toNat_inj.1 (by show _ = 91; omega))
            clear e40 e91
            go_wp2_with fail
            go_meet
            exact ⟨rfl, v4, by rw [H5.out]; exact hp4', he4'⟩
      case rest =>
        clear hp4' he4'
        obtain ⟨rfl, v5, hp5, he5⟩ := hcut
        have hG : ∀ q, Inv s q → q.bad < 0 → r4.i + 1 ≤ q.i → Goes s q (stF s f q (p.st.length : Nat) (depth + 1)) := fun q hq hqb hqi => stF_goes s f q _ _ hq hqb (by omega)
        have h5ok := st5_ok s (fun q => stF s f q (p.st.length : Nat) (depth + 1)) p.st.length r4 hI4 hG
        have hpl5 : p.st.length < (st5 s (fun q => stF s f q (p.st.length : Nat) (depth + 1)) p.st.length r4).st.length := by have := h5ok.2.2; omega
        clear hG
        have HE2 : Hid (stF s (f + 1) p up depth = trL s p.st.length (st6 p.st.length (st5 s (fun q => stF s f q (p.st.length : Nat) (depth + 1)) p.st.length r4))) := HE.out
        clear HE hpl hx4 hpre4
        generalize st5 s (fun q => stF s f q (p.st.length : Nat) (depth + 1)) p.st.length r4 = r5 at *
        have hI5 := h5ok.1
        have hi5 := hI5.i
        have hst5 := hI5.st
        obtain ⟨gg, cc, hv3, hcc⟩ := row_form hp5.r3 (by omega)
        obtain ⟨x5, hx5⟩ : ∃ x5, r5.st[p.st.length]? = some x5 := ⟨_, List.getElem?_eq_getElem hpl5⟩
        obtain ⟨k5, z5⟩ := hp5.stCell hv3 hx5 5 _ (by omega) rfl
        obtain ⟨-, -, -, d3, -⟩ := hp5.blk.cells
        rw [hv3] at d3
        have HEnd : Hid _ := hp5.end hv3 hx5
        have hI6 : Inv s (st6 p.st.length r5) := setE_inv hI5 _ _
        have hpl5' : (p.st.length : Int) < r5.st.length := by omega
        clear hx5 h5ok
        go_wp2_with fail
        go_region
        go_wp2_with fail
        have hp6 := HEnd.out.1.drew
        have he6 := (he5.trans HEnd.out.2).drew
        refine (ahead_any _ b s _ _ _ _ _ _ hp6.blk).mono ?_
        rintro e w6 ⟨rfl, n6, rfl⟩
        have hp7 := hp6.drewN n6
        have he7 := he6.drewN n6
        clear hp6 he6 HEnd hp5 he5 d3 k5 z5 hv3
        go_wp2_with fail
        go_loopg [7] (s.size + 1 - (st6 p.st.length r5).i) (fun gk vc wr => ∃ (r : Pn) (vr : Vs), PenV wr b s r vr ∧ Ev b vs vr w wr ∧ Inv s r ∧ vc = .int .u8 (ahd s r.i r.bad).toNat ∧ Hid (trL s p.st.length (st6 p.st.length r5) = trL s p.st.length r) ∧ s.size + 1 - r.i ≤ gk)
        case atStart => exact ⟨_, v5, by simpa only [World.drewN_drew] using hp7, by simpa only [World.drewN_drew] using he7, hI6, rfl, rfl, Nat.le_refl _⟩
        case round =>
          clear hp7 he7 hI6
          obtain ⟨r, vr, hpr, her, hIr, rfl, HT, hgk⟩ := hrel
          by_cases e47 : ahd s r.i r.bad = 47
          · have hin := (sl_in s r.i r.bad e47).2
            have HT2 : Hid _ := HT.out.trans (trL_go s p.st.length r hIr e47)
            have hok := trP_ok s p.st.length r hIr hin
            have HO : Hid _ := hok
            clear hok
            rw [e47]
            go_wp2_with fail
            refine (trans_any _ b s p.st.length r vr hpr hs hIr hin).mono ?_
            rintro e w8 ⟨rfl, v8, hp8, he8⟩
            go_wp2_with fail
            refine (ahead_any _ b s _ _ _ _ _ _ hp8.blk).mono ?_
            rintro e w9 ⟨rfl, n9, rfl⟩
            go_wp2_with fail
            go_roundg (s.size + 1 - (trP s p.st.length r).i)
            case measure => have := HO.out.2.1; omega
            case rel => exact ⟨_, v8, hp8.drewN _, (her.trans he8).drewN _, HO.out.1, rfl, HT2, Nat.le_refl _⟩
          · have b47 : (((ahd s r.i r.bad).toNat : Int) == 47) = false := by
              rw [beq_eq_false_iff_ne]; intro h; exact e47 (UInt8.toNat_inj.1 (by show _ = 47; omega))
            have HT2 : Hid (stF s (f + 1) p up depth = r) := HE2.out.trans (HT.out.trans (trL_stop s p.st.length r e47))
            clear e47
            go_wp2_with fail
            go_end0
            exact ⟨rfl, vr, by rw [HT2.out]; exact hpr, her⟩

theorem state_any (s : ByteArray) (hs : s.size ≤ 1000000) : ∀ f, StC s f
 | 0 => by intro w b p vs up depth dI hdI hp hv hb hd hf; omega
 | f + 1 => state_step s hs f (state_any s hs f)

end Go.Proofs.YtmolmbeeoecnfaaGreatDoor
