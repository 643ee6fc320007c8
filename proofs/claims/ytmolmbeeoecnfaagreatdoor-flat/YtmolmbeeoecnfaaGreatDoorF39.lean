/- Own work: Pure4, Pen9, LgY. -/
import Derived.Test.YtmolmbeeoecnfaaGreatDoorF07
import Derived.Test.YtmolmbeeoecnfaaGreatDoorF38
import Derived.Test.YtmolmbeeoecnfaaGreatDoorF10
import Derived.Test.YtmolmbeeoecnfaaGreatDoorF30
import Derived.Test.YtmolmbeeoecnfaaGreatDoorF06
import Derived.Test.YtmolmbeeoecnfaaGreatDoorF01
/- Own work: the document's reader as plain functions: marks stand behind names; the whole text. -/
namespace Go.Proofs.YtmolmbeeoecnfaaGreatDoor
open Go.RowKit Go.BigFrame
set_option linter.unusedVariables false
set_option linter.unusedSimpArgs false

def MaOk (p : Pn) : Prop := ∀ m ∈ p.ma, ∃ r ∈ p.re, r.name = m.name

theorem MaOk.nm {s : ByteArray} {p : Pn} (h : MaOk p) : MaOk (nmP s p) := by
 intro m hm
 obtain ⟨r, hr, e⟩ := h m hm
 refine ⟨r, ?_, e⟩
 simp only [nmP]
 split
 ·exact List.mem_append_left _ hr
 ·exact hr
theorem MaOk.cdF (s : ByteArray) : ∀ (f : Nat) (p : Pn) (a : ByteArray), MaOk p → MaOk (cdF s f p a).1
 | 0, _, _, h => h
 | f + 1, p, a, h => by
  simp only [Proofs.YtmolmbeeoecnfaaGreatDoor.cdF]
  split
  ·exact MaOk.cdF s f _ _ (MaOk.nm (p := { p with i := p.i + 1 }) h)
  ·exact h
theorem MaOk.tr (s : ByteArray) (own : Nat) (p : Pn) (h : MaOk p) : MaOk (trP s own p) := by
 have h1 : MaOk (tr1 s p) := h
 have h2 : MaOk (tr2 s p) := MaOk.cdF s _ _ _ h1
 have h3 : MaOk (tr3 s (tr2 s p)) := h2
 have h4 : MaOk (nmP s (tr3 s (tr2 s p))) := h3.nm
 have h5 : MaOk (tr5 s (nmP s (tr3 s (tr2 s p))) (nmC s (tr3 s (tr2 s p)))) := by
  unfold tr5
  split
  ·rename_i hm
   have hb := (isM_in s _ _ hm).1
   have hb' : tkB s 65 90 (tr3 s (tr2 s p)).i (tr3 s (tr2 s p)).bad < 0 := hb
   intro m hmm
   rcases List.mem_append.1 hmm with hmm | hmm
   ·exact h4 m hmm
   ·simp only [List.mem_cons, List.not_mem_nil, or_false] at hmm
    subst hmm
    refine ⟨⟨nmC s (tr3 s (tr2 s p)), (tr3 s (tr2 s p)).i⟩, ?_, rfl⟩
    show _ ∈ (nmP s (tr3 s (tr2 s p))).re
    simp only [nmP]
    rw [if_pos hb']
    exact List.mem_append_right _ (by simp)
  ·exact h4
 exact h5
theorem MaOk.trF (s : ByteArray) (own : Nat) : ∀ (f : Nat) (p : Pn), MaOk p → MaOk (trF s own f p)
 | 0, _, h => h
 | f + 1, p, h => by
  simp only [Proofs.YtmolmbeeoecnfaaGreatDoor.trF]
  split
  ·exact MaOk.trF s own f _ (MaOk.tr s own p h)
  ·exact h
theorem MaOk.inF (s : ByteArray) (g : Pn → Pn) (hg : ∀ q, MaOk q → MaOk (g q)) (fin : UInt8) (least : Nat) : ∀ (f n : Nat) (p : Pn), MaOk p → MaOk (inF s g fin least f n p)
 | 0, _, _, h => h
 | f + 1, n, p, h => by
  simp only [Proofs.YtmolmbeeoecnfaaGreatDoor.inF]
  split
  ·exact MaOk.inF s g hg fin least f _ _ (hg p h)
  ·exact h
theorem MaOk.stF (s : ByteArray) : ∀ (f : Nat) (p : Pn) (up : Int) (depth : Nat), MaOk p → MaOk (stF s f p up depth)
 | 0, _, _, _, h => h
 | f + 1, p, up, depth, h => by
  simp only [Proofs.YtmolmbeeoecnfaaGreatDoor.stF]
  split
  ·exact h
  ·have h4 : MaOk (st4 s p up depth) := h
   refine MaOk.trF s _ _ _ ?_
   show MaOk (st5 s _ _ _)
   unfold st5
   split
   ·exact MaOk.inF s _ (fun q hq => MaOk.stF s f q _ _ hq) _ _ _ _ _ h4
   ·split
    ·exact MaOk.inF s _ (fun q hq => MaOk.stF s f q _ _ hq) _ _ _ _ _ h4
    ·exact h4

def P0 : Pn := ⟨0, -1, [], [], [], []⟩
theorem P0_inv (s : ByteArray) : Inv s P0 := ⟨Nat.zero_le _, Nat.le_refl _, Nat.le_refl _, Nat.le_refl _, Nat.le_refl _⟩
def rd (s : ByteArray) : Pn := stF s (s.size + 1) P0 (-1) 1
theorem rd_goes (s : ByteArray) : Goes s P0 (rd s) := stF_goes s (s.size + 1) P0 (-1) 1 (P0_inv s) (by decide) (by show s.size - 0 < _; omega)
theorem rd_ma (s : ByteArray) : MaOk (rd s) := MaOk.stF s _ _ _ _ (fun m hm => by cases hm)
def rdB (s : ByteArray) : Int := if (rd s).bad < 0 ∧ (rd s).i < s.size then (rd s).i else (rd s).bad
def rdE (s : ByteArray) : Nat × Nat :=
 if 160 < s.size then (1, 0) else if 0 ≤ rdB s then (2, (rdB s).toNat) else flt (rd s).st (rd s).re (rd s).ma


def Vs0 : Vs := ⟨.slice none 0 0, .slice none 0 0, .slice none 0 0, .slice none 0 0⟩

structure ChartV (w : World) (base : Nat) (p : Pn) (vs : Vs) : Prop where
 r3 : w.ownsRow 0 104 8 vs.v3 p.st.length (p.st.flatMap StR.cells)
 r4 : w.ownsRow 0 96 6 vs.v4 p.tr.length (p.tr.flatMap TrR.cells)
 r5 : w.ownsRow 0 138 2 vs.v5 p.re.length (p.re.flatMap RfR.cells)
 r6 : w.ownsRow 0 138 2 vs.v6 p.ma.length (p.ma.flatMap RfR.cells)
 lo : ∀ k, (vs.v3.ownBlock = some k ∨ vs.v4.ownBlock = some k ∨ vs.v5.ownBlock = some k ∨ vs.v6.ownBlock = some k) → base ≤ k

theorem ChartV.fr {w w' : World} {base : Nat} {p : Pn} {vs : Vs} {S : Nat → Prop} (h : ChartV w base p vs) (f : Fr S w w') (hS : ∀ k, base ≤ k → ¬ S k) : ChartV w' base p vs :=
 ⟨row_fr h.r3 f (fun k hk => hS k (h.lo k (by simp [hk]))), row_fr h.r4 f (fun k hk => hS k (h.lo k (by simp [hk]))), row_fr h.r5 f (fun k hk => hS k (h.lo k (by simp [hk]))), row_fr h.r6 f (fun k hk => hS k (h.lo k (by simp [hk]))), h.lo⟩

theorem PenV.chart {w0 w : World} {b : Nat} {s : ByteArray} {p : Pn} {vs : Vs} (h : PenV w b s p vs) (he : Ev b Vs0 vs w0 w) (base : Nat) (hb : base ≤ w0.heap.size) : ChartV w base p vs := by
 refine ⟨h.r3, h.r4, h.r5, h.r6, ?_⟩
 intro k hk
 by_cases hlt : k < w0.heap.size
 ·have ho : OwnS b vs k := Or.inr hk
  rcases he.own k hlt ho with e | e | e | e | e
  ·subst e
   rcases hk with hk | hk | hk | hk
   ·exact absurd hk h.n3
   ·exact absurd hk h.n4
   ·exact absurd hk h.n5
   ·exact absurd hk h.n6
  ·simp [Vs0, Value.ownBlock] at e
  ·simp [Vs0, Value.ownBlock] at e
  ·simp [Vs0, Value.ownBlock] at e
  ·simp [Vs0, Value.ownBlock] at e
 ·omega

theorem pen_start (w : World) (b : Nat) (s : ByteArray) (h : PenB w b s 0 (-1) (.slice none 0 0) (.slice none 0 0) (.slice none 0 0) (.slice none 0 0)) : PenV w b s P0 Vs0 where
 blk := h
 r3 := World.ownsRow_nil _ _ _ _
 r4 := World.ownsRow_nil _ _ _ _
 r5 := World.ownsRow_nil _ _ _ _
 r6 := World.ownsRow_nil _ _ _ _
 n3 := by simp [Vs0, Value.ownBlock]
 n4 := by simp [Vs0, Value.ownBlock]
 n5 := by simp [Vs0, Value.ownBlock]
 n6 := by simp [Vs0, Value.ownBlock]
 d34 := fun k hk => by simp [Vs0, Value.ownBlock] at hk
 d35 := fun k hk => by simp [Vs0, Value.ownBlock] at hk
 d36 := fun k hk => by simp [Vs0, Value.ownBlock] at hk
 d45 := fun k hk => by simp [Vs0, Value.ownBlock] at hk
 d46 := fun k hk => by simp [Vs0, Value.ownBlock] at hk
 d56 := fun k hk => by simp [Vs0, Value.ownBlock] at hk

theorem ChartV.mono {w : World} {base base' : Nat} {p : Pn} {vs : Vs} (h : ChartV w base p vs) (hb : base' ≤ base) : ChartV w base' p vs := ⟨h.r3, h.r4, h.r5, h.r6, fun k hk => Nat.le_trans hb (h.lo k hk)⟩
theorem flt_zero {st : List StR} {re ma : List RfR} (h : (flt st re ma).1 = 0) : (flt st re ma).2 = 0 := by
 unfold flt at h ⊢
 split at h
 ·cases h
 ·split at h
  ·cases h
  ·split at h
   ·cases h
   ·split at h
    ·cases h
    ·rfl

def SlV (vs : Vs) : Prop := (∃ a n c, vs.v3 = .slice a n c) ∧ (∃ a n c, vs.v4 = .slice a n c) ∧ (∃ a n c, vs.v5 = .slice a n c) ∧ (∃ a n c, vs.v6 = .slice a n c)
theorem SlV0 : SlV Vs0 := ⟨⟨_, _, _, rfl⟩, ⟨_, _, _, rfl⟩, ⟨_, _, _, rfl⟩, ⟨_, _, _, rfl⟩⟩

def RdPost (s : ByteArray) (w : World) (e : Ending) (w' : World) : Prop :=
 ∃ vs : Vs, e = .returned (.tuple #[.agg #[vs.v3, vs.v4, vs.v5, vs.v6], .int .i64 (rdE s).1, .int .i64 (rdE s).2]) ∧ SlV vs ∧ Fr (fun _ => False) w w' ∧ ((rdE s).1 = 0 → ChartV w' w.heap.size (rd s) vs)

set_option maxRecDepth 100000 in
set_option maxHeartbeats 1000000 in
theorem read_any (w : World) (s : ByteArray) (hm : s.size ≤ maxLen) : Calls Tryz.prog 14 #[.string s] w (RdPost s w) := by
 unfold maxLen at hm
 by_cases h160 : (160 : Int) < s.size
 ·have HE : Hid (rdE s = (1, 0)) := by show _ = _; rw [rdE, if_pos (by omega)]
  go_enter Tryz.func14, Tryz.ntmps14
  go_wp2_with fail
  refine bodyPost_ret (v := .tuple #[.agg #[.slice none 0 0, .slice none 0 0, .slice none 0 0, .slice none 0 0], .int .i64 1, .int .i64 0]) (by simp [results, Tryz.results14, go_sem]) rfl ⟨Vs0, ?_, SlV0, ?_, ?_⟩
  ·rw [HE.out]; rfl
  ·exact by (repeat (first | exact Fr.refl _ _ | assumption | refine Fr.drewNr ?_ _ | refine Fr.drewr ?_ | refine Fr.allocr ?_ _ | refine Fr.setCellr ?_ _ _ (by first | exact Or.inl rfl | (right; simp; done) | (right; simp; omega))))
  ·rw [HE.out]; intro h; cases h
 ·have hd160 : decide ((160 : Int) < s.size) = false := by simpa using h160
  have hs160 : s.size ≤ 160 := by omega
  have HE0 : Hid (rdE s = if 0 ≤ rdB s then (2, (rdB s).toNat) else flt (rd s).st (rd s).re (rd s).ma) := by show _ = _; rw [rdE, if_neg (by omega)]
  go_enter Tryz.func14, Tryz.ntmps14
  go_wp2_with fail
  have hp0 := pen_start _ (w.heap.size + 1) s (Blk.new' (w.alloc (Obj.cells #[Value.slice none 0 0, Value.slice none 0 0, Value.slice none 0 0, Value.slice none 0 0] 48)) #[Value.string s, Value.int IntKind.i64 0, Value.int IntKind.i64 (-1), Value.slice none 0 0, Value.slice none 0 0, Value.slice none 0 0, Value.slice none 0 0] 91 (w.heap.size + 1) (by simp))
  have hrb := Blk.alloc (Blk.new w #[Value.slice none 0 0, Value.slice none 0 0, Value.slice none 0 0, Value.slice none 0 0] 48) (Obj.cells #[Value.string s, Value.int IntKind.i64 0, Value.int IntKind.i64 (-1), Value.slice none 0 0, Value.slice none 0 0, Value.slice none 0 0, Value.slice none 0 0] 91)
  have hfr0 : Fr (fun _ => False) w ((w.alloc (Obj.cells #[Value.slice none 0 0, Value.slice none 0 0, Value.slice none 0 0, Value.slice none 0 0] 48)).alloc (Obj.cells #[Value.string s, Value.int IntKind.i64 0, Value.int IntKind.i64 (-1), Value.slice none 0 0, Value.slice none 0 0, Value.slice none 0 0, Value.slice none 0 0] 91)) := by (repeat (first | exact Fr.refl _ _ | assumption | refine Fr.drewNr ?_ _ | refine Fr.drewr ?_ | refine Fr.allocr ?_ _ | refine Fr.setCellr ?_ _ _ (by first | exact Or.inl rfl | (right; simp; done) | (right; simp; omega))))
  have hsz0 : ((w.alloc (Obj.cells #[Value.slice none 0 0, Value.slice none 0 0, Value.slice none 0 0, Value.slice none 0 0] 48)).alloc (Obj.cells #[Value.string s, Value.int IntKind.i64 0, Value.int IntKind.i64 (-1), Value.slice none 0 0, Value.slice none 0 0, Value.slice none 0 0, Value.slice none 0 0] 91)).heap.size = w.heap.size + 2 := by simp
  generalize hW : (w.alloc (Obj.cells #[Value.slice none 0 0, Value.slice none 0 0, Value.slice none 0 0, Value.slice none 0 0] 48)).alloc (Obj.cells #[Value.string s, Value.int IntKind.i64 0, Value.int IntKind.i64 (-1), Value.slice none 0 0, Value.slice none 0 0, Value.slice none 0 0, Value.slice none 0 0] 91) = W at hp0 hrb hfr0 hsz0 ⊢
  clear hW
  refine (state_any s (by omega) (s.size + 1) W (w.heap.size + 1) P0 Vs0 (-1) 1 1 rfl hp0 (P0_inv s) (by decide) (by decide) (by show s.size - 0 < _; omega)).mono ?_
  rintro e w1 ⟨rfl, v1, hp1, he1⟩
  have hp1' : PenV w1 (w.heap.size + 1) s (rd s) v1 := hp1
  have hno : ¬ OwnS (w.heap.size + 1) Vs0 w.heap.size := by
   intro h
   rcases h with h | h | h | h | h
   ·omega
   ·simp [Vs0, Value.ownBlock] at h
   ·simp [Vs0, Value.ownBlock] at h
   ·simp [Vs0, Value.ownBlock] at h
   ·simp [Vs0, Value.ownBlock] at h
  obtain ⟨hrb1, hno1⟩ := he1.keeps hrb hno
  have hch := hp1'.chart he1 (w.heap.size + 2) (by omega)
  have hfr1 : Fr (fun _ => False) w w1 := hfr0.trans he1.fr (fun _ _ h => h) (fun i hi ho => by
   rcases ho with h | h | h | h | h
   ·omega
   ·simp [Vs0, Value.ownBlock] at h
   ·simp [Vs0, Value.ownBlock] at h
   ·simp [Vs0, Value.ownBlock] at h
   ·simp [Vs0, Value.ownBlock] at h)
  have hgo := rd_goes s
  have hri := hgo.inv.i
  have hma := rd_ma s
  have hrs1 := hgo.inv.st
  have hrs2 := hgo.inv.re
  have hrs3 := hgo.inv.ma
  have hszw : w.heap.size < w1.heap.size := Blk.lt hrb1
  have hszb : w.heap.size + 1 < w1.heap.size := Blk.lt hp1'.blk
  have HMA : Hid (MaOk (rd s)) := hma
  have HGO : Hid (Goes s P0 (rd s)) := hgo
  clear hp1 hp0 hrb hfr0 hsz0 hno he1 hma hgo
  generalize hr : rd s = r at *
  have HR : Hid (rd s = r) := hr
  clear hr
  have HB : Hid (rdB s = if r.bad < 0 ∧ r.i < s.size then (r.i : Int) else r.bad) := by show _ = _; rw [rdB, HR.out]
  obtain ⟨d0, d1, d2, d3, d4, d5, d6, hz⟩ := hp1'.blk.cells
  have hz2 := hz 2
  have hzr := fun o => Blk.frozen hrb1 o
  have hr0 : w1.cell? ⟨w.heap.size, 0, none⟩ = some (.slice none 0 0) := by rw [Blk.cell hrb1]; rfl
  have hr1 : w1.cell? ⟨w.heap.size, 1, none⟩ = some (.slice none 0 0) := by rw [Blk.cell hrb1]; rfl
  have hr2 : w1.cell? ⟨w.heap.size, 2, none⟩ = some (.slice none 0 0) := by rw [Blk.cell hrb1]; rfl
  have hr3 : w1.cell? ⟨w.heap.size, 3, none⟩ = some (.slice none 0 0) := by rw [Blk.cell hrb1]; rfl
  have hy0 := hzr 0
  have hy1 := hzr 1
  have hy2 := hzr 2
  have hy3 := hzr 3
  clear hzr hz
  by_cases hb : r.bad < 0
  ·by_cases hi : r.i < s.size
   ·have hB : rdB s = r.i := by rw [HB.out, if_pos ⟨hb, hi⟩]
    have HE : Hid (rdE s = (2, r.i)) := by show _ = _; rw [HE0.out, hB, if_pos (by omega)]; simp
    have hi' : (r.i : Int) < s.size := by omega
    clear HE0 HB hB
    go_wp2_with fail
    go_region
    all_goals
     go_wp2_with fail
     refine bodyPost_ret (v := .tuple #[.agg #[.slice none 0 0, .slice none 0 0, .slice none 0 0, .slice none 0 0], .int .i64 2, .int .i64 r.i]) (by simp [results, Tryz.results14, go_sem, hr0, hr1, hr2, hr3]) rfl ⟨Vs0, ?_, SlV0, ?_, ?_⟩
     ·rw [HE.out]; rfl
     ·exact (fr4 (hfr1.setCellr _ _ (Or.inr (by simp))) _ (Or.inr (Nat.le_refl _)) _ _ _ _).drewr
     ·rw [HE.out]; intro h; cases h
   ·have hB : rdB s = r.bad := by rw [HB.out, if_neg (fun h => hi h.2)]
    have HE : Hid (rdE s = flt r.st r.re r.ma) := by show _ = _; rw [HE0.out, hB, if_neg (by omega)]
    have hi' : decide (r.i < s.size) = false := by simpa using hi
    have hb' : decide (0 ≤ r.bad) = false := by simp; omega
    clear HE0 HB hB
    go_wp2_with fail
    refine (faults_any _ (w.heap.size + 1) s r v1 hp1' (by omega) (by omega) (by omega) HMA.out).mono ?_
    rintro e w2 ⟨rfl, n2, rfl⟩
    by_cases hf : (flt r.st r.re r.ma).1 = 0
    ·have HF2 : Hid ((flt r.st r.re r.ma).2 = 0) := flt_zero hf
     have hz0 : (((flt r.st r.re r.ma).1 : Int) != 0) = false := by rw [hf]; rfl
     obtain ⟨a3, k3, e3⟩ := row_len hp1'.r3
     obtain ⟨a4, k4, e4⟩ := row_len hp1'.r4
     obtain ⟨a5, k5, e5⟩ := row_len hp1'.r5
     obtain ⟨a6, k6, e6⟩ := row_len hp1'.r6
     rw [e3] at d3
     rw [e4] at d4
     rw [e5] at d5
     rw [e6] at d6
     have HV : Hid (v1.v3 = .slice a3 r.st.length k3 ∧ v1.v4 = .slice a4 r.tr.length k4 ∧ v1.v5 = .slice a5 r.re.length k5 ∧ v1.v6 = .slice a6 r.ma.length k6) := ⟨e3, e4, e5, e6⟩
     clear e3 e4 e5 e6
     have HF1 : Hid ((flt r.st r.re r.ma).1 = 0) := hf
     clear hf
     go_wp2_with fail
     refine bodyPost_ret (v := .tuple #[.agg #[.slice a3 r.st.length k3, .slice a4 r.tr.length k4, .slice a5 r.re.length k5, .slice a6 r.ma.length k6], .int .i64 0, .int .i64 0]) (by simp [results, Tryz.results14, go_sem, hr0, hr1, hr2, hr3]) rfl ⟨v1, ?_, ⟨⟨_, _, _, HV.out.1⟩, ⟨_, _, _, HV.out.2.1⟩, ⟨_, _, _, HV.out.2.2.1⟩, ⟨_, _, _, HV.out.2.2.2⟩⟩, ?_, ?_⟩
     ·rw [HE.out, HF1.out, HF2.out, HV.out.1, HV.out.2.1, HV.out.2.2.1, HV.out.2.2.2]; rfl
     ·exact fr4 (hfr1.drewNr n2) _ (Or.inr (Nat.le_refl _)) _ _ _ _
     ·intro _
      rw [HR.out]
      exact (hch.fr (S := (· = w.heap.size)) (fr4 (S := fun x => x = w.heap.size) (Fr.drewN (fun x => x = w.heap.size) w1 n2) w.heap.size (Or.inl rfl) _ _ _ _) (fun k hk e => by omega)).mono (by omega)
    ·have hne : (((flt r.st r.re r.ma).1 : Int) != 0) = true := by simp; omega
     go_wp2_with fail
     refine bodyPost_ret (v := .tuple #[.agg #[.slice none 0 0, .slice none 0 0, .slice none 0 0, .slice none 0 0], .int .i64 (flt r.st r.re r.ma).1, .int .i64 (flt r.st r.re r.ma).2]) (by simp [results, Tryz.results14, go_sem, hr0, hr1, hr2, hr3]) rfl ⟨Vs0, ?_, SlV0, ?_, ?_⟩
     ·rw [HE.out]; rfl
     ·exact fr4 (hfr1.drewNr n2) _ (Or.inr (Nat.le_refl _)) _ _ _ _
     ·rw [HE.out]; intro h; exact absurd h hf
  ·have hB : rdB s = r.bad := by rw [HB.out, if_neg (fun h => hb h.1)]
   have HE : Hid (rdE s = (2, r.bad.toNat)) := by show _ = _; rw [HE0.out, hB, if_pos (by omega)]
   have hb' : decide (r.bad < 0) = false := by simpa using hb
   have hb2 : 0 ≤ r.bad := by omega
   have HT : Hid ((r.bad.toNat : Int) = r.bad) := by show _ = _; omega
   clear HE0 HB hB
   go_wp2_with fail
   go_region
   all_goals
    go_wp2_with fail
    refine bodyPost_ret (v := .tuple #[.agg #[.slice none 0 0, .slice none 0 0, .slice none 0 0, .slice none 0 0], .int .i64 2, .int .i64 r.bad]) (by simp [results, Tryz.results14, go_sem, hr0, hr1, hr2, hr3]) rfl ⟨Vs0, ?_, SlV0, ?_, ?_⟩
    ·rw [HE.out]
     show _ = Ending.returned (.tuple #[.agg #[.slice none 0 0, .slice none 0 0, .slice none 0 0, .slice none 0 0], .int .i64 2, .int .i64 ((r.bad.toNat : Nat) : Int)])
     rw [HT.out]
    ·exact (fr4 hfr1 _ (Or.inr (Nat.le_refl _)) _ _ _ _).drewr
    ·rw [HE.out]; intro h; cases h

set_option maxRecDepth 100000 in
set_option maxHeartbeats 1000000 in
theorem rcheck_any (w : World) (s : ByteArray) (hm : s.size ≤ maxLen) : Calls Tryz.prog 8 #[.string s] w fun e w' => e = .returned (.tuple #[.int .i64 (rdE s).1, .int .i64 (rdE s).2]) ∧ Fr (fun _ => False) w w' := by
 go_enter Tryz.func8, Tryz.ntmps8
 go_wp2_with fail
 refine (read_any w s hm).mono ?_
 rintro e w1 ⟨⟨_, _, _, _⟩, rfl, ⟨⟨a3, n3, k3, rfl⟩, ⟨a4, n4, k4, rfl⟩, ⟨a5, n5, k5, rfl⟩, ⟨a6, n6, k6, rfl⟩⟩, hfr, -⟩
 go_wp2_with fail
 go_ret2
 exact ⟨rfl, by (repeat (first | exact Fr.refl _ _ | assumption | refine Fr.drewNr ?_ _ | refine Fr.drewr ?_ | refine Fr.allocr ?_ _ | refine Fr.setCellr ?_ _ _ (by first | exact Or.inl rfl | (right; simp; done) | (right; simp; omega))))⟩

def hasB (S : ByteArray) (c : UInt8) : Bool := (firstB (fun k => byte S k == c) S.size).isSome
theorem ret_bH {a b : Bool} (h : a = b) : Ending.returned (.bool a) = .returned (.bool b) := by rw [h]

def parAt (sts : List StR) (j : Nat) : Int := match sts[j]? with | some y => y.parent | none => -1
def nmAt (sts : List StR) (j : Nat) : UInt8 := match sts[j]? with | some y => y.name | none => 0
theorem st8 {w : World} {st : List StR} {g n c k : Nat} {x : StR} (h3 : w.ownsRow 0 104 8 (.slice (some ⟨g, 0, none⟩) n c) n (st.flatMap StR.cells)) (hx : st[k]? = some x) :
  w.cell? ⟨g, k * 8, none⟩ = some (.int .u8 x.name.toNat) ∧ w.cell? ⟨g, k * 8 + 1, none⟩ = some (.int .i64 x.at_) ∧ w.cell? ⟨g, k * 8 + 2, none⟩ = some (.int .i64 x.parent) ∧ w.cell? ⟨g, k * 8 + 3, none⟩ = some (.int .i64 x.depth) ∧
  w.cell? ⟨g, k * 8 + 4, none⟩ = some (.int .i64 x.kind) ∧ w.cell? ⟨g, k * 8 + 5, none⟩ = some (.int .i64 x.end_) ∧ w.cell? ⟨g, k * 8 + 6, none⟩ = some (.string x.enter) ∧ w.cell? ⟨g, k * 8 + 7, none⟩ = some (.string x.leave) := by
 have key : ∀ o v, o < 8 → x.cells[o]? = some v → w.cell? ⟨g, k * 8 + o, none⟩ = some v := fun o v ho hv =>
  (row_cell h3 (k * 8 + o) v (by rw [flat_get StR.cells 8 StR.len st k o x hx ho]; exact hv)).1
 exact ⟨key 0 _ (by omega) rfl, key 1 _ (by omega) rfl, key 2 _ (by omega) rfl, key 3 _ (by omega) rfl, key 4 _ (by omega) rfl, key 5 _ (by omega) rfl, key 6 _ (by omega) rfl, key 7 _ (by omega) rfl⟩

end Go.Proofs.YtmolmbeeoecnfaaGreatDoor
