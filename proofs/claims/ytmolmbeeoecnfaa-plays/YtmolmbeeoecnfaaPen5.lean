/- Own work: the walk of the document's reader: inner. -/
import Derived.Test.YtmolmbeeoecnfaaPure3
import Derived.Test.YtmolmbeeoecnfaaPen4
import Derived.Test.YtmolmbeeoecnfaaAppF
namespace Go.Proofs.Ytmolmbeeoecnfaa
open Go.RowKit Go.BigFrame
set_option linter.unusedVariables false
set_option linter.unusedSimpArgs false

theorem StR.len (x : StR) : x.cells.length = 8 := rfl
theorem TrR.len (x : TrR) : x.cells.length = 6 := rfl
theorem RfR.len (x : RfR) : x.cells.length = 2 := rfl

/-- One cell of a state is written. -/
theorem PenV.poke {w : World} {b : Nat} {s : ByteArray} {p : Pn} {vs : Vs} {g c : Nat} (h : PenV w b s p vs) (hv : vs.v3 = .slice (some ⟨g, 0, none⟩) p.st.length c) (j : Nat) (v : Value) (st' : List StR)
    (hl : st'.length = p.st.length) (hst : st'.flatMap StR.cells = (p.st.flatMap StR.cells).set j v) (hj : j < p.st.length * 8) :
    PenV (w.setCell ⟨g, j, none⟩ v) b s { p with st := st' } vs ∧ Ev b vs vs w (w.setCell ⟨g, j, none⟩ v) := by
  have ho : vs.v3.ownBlock = some g := by rw [hv]; rfl
  have f : Fr (· = g) w (w.setCell ⟨g, j, none⟩ v) := Fr.setCell _ _ _ _ rfl
  refine ⟨{ blk := Blk.fr h.blk f (fun e => h.n3 (by rw [ho, e])), r3 := ?_, r4 := row_fr h.r4 f (fun k hk e => h.d34 g ho (by rw [hk, e])), r5 := row_fr h.r5 f (fun k hk e => h.d35 g ho (by rw [hk, e])), r6 := row_fr h.r6 f (fun k hk e => h.d36 g ho (by rw [hk, e])), n3 := h.n3, n4 := h.n4, n5 := h.n5, n6 := h.n6, d34 := h.d34, d35 := h.d35, d36 := h.d36, d45 := h.d45, d46 := h.d46, d56 := h.d56 }, ⟨f.mono (fun k _ e => by unfold OwnS; simp [ho, e]), fun _ _ h => h⟩⟩
  have h3 := h.r3
  rw [hv] at h3 ⊢
  have := row_set h3 j v hj
  rw [hst]
  show World.ownsRow _ _ _ _ _ st'.length _
  rw [hl]
  exact this

def StC (s : ByteArray) (f : Nat) : Prop := ∀ (w : World) (b : Nat) (p : Pn) (vs : Vs) (up : Int) (depth : Nat) (dI : Int), dI = depth → PenV w b s p vs → Inv s p → p.bad < 0 → depth ≤ p.i + 1 → s.size - p.i < f →
  Calls Try.prog 37 #[.pointer (some ⟨b, 0, none⟩), .int .i64 up, .int .i64 dI] w fun e w' => e = .returned (.tuple #[]) ∧ ∃ vs', PenV w' b s (stF s f p up depth) vs' ∧ Ev b vs vs' w w'

theorem prefix_get {α : Type} {l m : List α} (h : l <+: m) {i : Nat} {x : α} (hx : l[i]? = some x) : m[i]? = some x := by
  obtain ⟨t, rfl⟩ := h
  rw [List.getElem?_append_left (List.getElem?_eq_some_iff.1 hx).1]
  exact hx

set_option maxRecDepth 100000 in
set_option maxHeartbeats 1000000 in
theorem inner_any (s : ByteArray) (hs : s.size ≤ 1000000) (f : Nat) (hS : StC s f) (w : World) (b : Nat) (p : Pn) (vs : Vs) (own least : Nat) (fin : UInt8) (x : StR)
    (hp : PenV w b s p vs) (hv : Inv s p) (hn : p.i < s.size) (hx : p.st[own]? = some x) (hd : x.depth ≤ p.i) (hl : least ≤ 2) (hf : s.size - (p.i + 1) < f) :
    Calls Try.prog 60 #[.pointer (some ⟨b, 0, none⟩), .int .i64 own, .int .u8 fin.toNat, .int .i64 least] w fun e w' => e = .returned (.tuple #[]) ∧ ∃ vs', PenV w' b s (inP s (fun q => stF s f q (own : Nat) (x.depth + 1)) fin least p) vs' ∧ Ev b vs vs' w w' := by
  obtain ⟨c0, c1, c2, -, -, -, -, hfz⟩ := hp.blk.cells
  have hz1 := hfz 1
  have hbl := Blk.lt hp.blk
  clear hfz
  have hG : ∀ q, Inv s q → q.bad < 0 → p.i + 1 ≤ q.i → Goes s q (stF s f q (own : Nat) (x.depth + 1)) := fun q hq hqb hqi => stF_goes s f q _ _ hq hqb (by omega)
  have HG : Hid (∀ q, Inv s q → q.bad < 0 → p.i + 1 ≤ q.i → Goes s q (stF s f q (own : Nat) (x.depth + 1))) := hG
  clear hG
  have HS : Hid (StC s f) := hS
  clear hS
  have HX : Hid (p.st[own]? = some x) := hx
  clear hx
  have hI0 : Inv s { p with i := p.i + 1 } := hv.to _ _ (by simp) hn
  have hp0 := hp.step (p.i + 1) rfl
  go_enter Try.func60, Try.ntmps60
  go_wp2_with fail
  refine (ahead_any _ b s _ _ _ _ _ _ hp0.blk).mono ?_
  rintro e w1 ⟨rfl, n1, rfl⟩
  go_wp2_with fail
  have hp1 := hp0.drewN n1
  have he1 := ((Ev.refl b vs w).setOwn 1 (.int .i64 ((p.i : Int) + 1))).drewN n1
  clear c0 c1 c2 hz1 hbl hp0
  go_loopg [8, 9] (s.size + 2 - (p.i + 1)) (fun gk vn vc wr => ∃ (r : Pn) (vr : Vs) (n : Nat), PenV wr b s r vr ∧ Ev b vs vr w wr ∧ Inv s r ∧ p.i + 1 ≤ r.i ∧ p.st <+: r.st ∧ n ≤ 2000000 ∧ vn = .int .i64 n ∧ vc = .int .u8 (ahd s r.i r.bad).toNat ∧ Hid (inL s (fun q => stF s f q (own : Nat) (x.depth + 1)) fin least 0 { p with i := p.i + 1 } = inL s (fun q => stF s f q (own : Nat) (x.depth + 1)) fin least n r) ∧ n ≤ r.i + 1 ∧ (r.bad < 0 → n ≤ r.i ∧ s.size + 2 - r.i ≤ gk) ∧ 1 ≤ gk)
  case atStart => exact ⟨_, vs, 0, hp1, he1, hI0, Nat.le_refl _, List.prefix_refl _, by omega, rfl, rfl, rfl, by omega, fun _ => ⟨by omega, Nat.le_refl _⟩, by omega⟩
  case round =>
    clear hp1 he1 hI0
    obtain ⟨r, vr, n, hpr, her, hIr, hri, hpre, hn2, rfl, rfl, HL, hn3, hn4, hg1⟩ := hrel
    have hri2 := hIr.i
    by_cases hgo : r.bad < 0 ∧ (n < least ∨ ahd s r.i r.bad ≠ fin)
    · have HL2 : Hid (inL s (fun q => stF s f q (own : Nat) (x.depth + 1)) fin least 0 { p with i := p.i + 1 } = inL s (fun q => stF s f q (own : Nat) (x.depth + 1)) fin least (n + 1) (stF s f r (own : Nat) (x.depth + 1))) :=
        HL.out.trans (inL_go s _ fin least (p.i + 1) n HG.out r hIr hri hgo)
      have hgs := HG.out r hIr hgo.1 hri
      have hn5 := hn4 hgo.1
      have hxr := prefix_get hpre HX.out
      have hlen : own < r.st.length := (List.getElem?_eq_some_iff.1 hxr).1
      obtain ⟨gg, cc, hv3, hcc⟩ := row_form hpr.r3 (by omega)
      have hcell : wr.cell? ⟨gg, own * 8 + 3, none⟩ = some (.int .i64 x.depth) := by
        have h3 := hpr.r3
        rw [hv3] at h3
        exact (row_cell h3 (own * 8 + 3) (.int .i64 x.depth) (by rw [flat_get StR.cells 8 StR.len r.st own 3 x hxr (by omega)]; rfl)).1
      obtain ⟨d0, d1, d2, d3, -⟩ := hpr.blk.cells
      rw [hv3] at d3
      have hrst := hIr.st
      have HB : Hid (r.bad < 0 ∧ (n < least ∨ ahd s r.i r.bad ≠ fin)) := hgo
      have hb := hgo.1
      have hcase : ((n : Int) < least) ∨ (¬ ((n : Int) < least) ∧ (((ahd s r.i r.bad).toNat : Int) != fin.toNat) = true) := by
        rcases hgo.2 with h | h
        · exact Or.inl (by omega)
        · by_cases e : (n : Int) < least
          · exact Or.inl e
          · refine Or.inr ⟨e, ?_⟩
            rw [bne_iff_ne]
            intro h2
            exact h (UInt8.toNat_inj.1 (by omega))
      clear hgo HL hxr hn4
      have HGs : Hid (Goes s r (stF s f r (own : Nat) (x.depth + 1))) := hgs
      clear hgs
      rcases hcase with h1 | ⟨h0, h1⟩
      all_goals
        go_wp2_with fail
        refine (HS.out _ b r vr own (x.depth + 1) ((x.depth : Int) + 1) (by omega) hpr hIr hb (by omega) (by omega)).mono ?_
        rintro e w2 ⟨rfl, v2, hp2, he2⟩
        go_wp2_with fail
        refine (ahead_any _ b s _ _ _ _ _ _ hp2.blk).mono ?_
        rintro e w3 ⟨rfl, n3, rfl⟩
        go_wp2_with fail
        have hgs := HGs.out
        have hgi := hgs.i
        have hgz := hgs.inv.i
        go_roundg (gk - 1)
        case measure => omega
        case rel => exact ⟨_, v2, n + 1, hp2.drewN _, (her.trans he2).drewN _, hgs.inv, by omega, List.IsPrefix.trans hpre hgs.st, by omega, by go_num, rfl, HL2, by omega, fun hb' => by have := hgs.on hb'; omega, by omega⟩
    · have HL2 : Hid (inP s (fun q => stF s f q (own : Nat) (x.depth + 1)) fin least p = tkP s fin fin r) := by
        show _ = _
        rw [inP, HL.out, inL_stop s _ fin least n r hgo]
      obtain ⟨d0, d1, d2, -⟩ := hpr.blk.cells
      have hcase : (decide (r.bad < 0) = false) ∨ (r.bad < 0 ∧ decide (n < least) = false ∧ (((ahd s r.i r.bad).toNat : Int) != fin.toNat) = false) := by
        by_cases hb : r.bad < 0
        · refine Or.inr ⟨hb, ?_, ?_⟩
          · simp; exact Nat.le_of_not_lt (fun h => hgo ⟨hb, Or.inl h⟩)
          · cases e : (((ahd s r.i r.bad).toNat : Int) != fin.toNat)
            · rfl
            · rw [bne_iff_ne] at e
              exact absurd ⟨hb, Or.inr (fun h => e (by rw [h]))⟩ hgo
        · exact Or.inl (by simpa using hb)
      clear hgo HL
      rcases hcase with h0 | ⟨h0, h1, h2⟩
      all_goals
        go_wp2_with fail
        refine (take_any _ b s fin fin r.i r.bad _ _ _ _ hpr.blk (by omega)).mono ?_
        rintro e w4 ⟨rfl, hp4, hf4⟩
        go_wp2_with fail
        go_end0
        exact ⟨rfl, vr, by rw [HL2.out]; exact hpr.move hp4 hf4, her.trans (Ev.of_fr hf4)⟩
end Go.Proofs.Ytmolmbeeoecnfaa
