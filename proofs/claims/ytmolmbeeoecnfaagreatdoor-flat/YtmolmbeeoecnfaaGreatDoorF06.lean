/- Own work: PenC, RdB. -/
import Derived.Test.YtmolmbeeoecnfaaGreatDoorF03
import Derived.BigRegion
import Derived.Deep.LoopGhost
import Derived.Deep.RegionHeldLaw
import Derived.Deep.DeepCutAuto
/- Own work: walks of the document's reader: name, trans. -/
namespace Go.Proofs.YtmolmbeeoecnfaaGreatDoor
open Go.RowKit Go.BigFrame
set_option linter.unusedVariables false
set_option linter.unusedSimpArgs false

theorem elemRef : ElemOk Tryz.prog 46 138 2 16 where
 ht := Tryz.underlying46
 info := by
  obtain ⟨i, h0, h1, h2, h3⟩ := info_parts (show (Tryz.prog.info? 138).map (fun i => (i.zero, i.size, i.bytes)) = some (some (.agg #[.int .u8 0, .int .i64 0]), 2, 16) by kernel_rfl)
  exact ⟨i, _, h0, h1, h2, h3, rfl⟩
 pos := by decide
theorem elemTrans : ElemOk Tryz.prog 45 96 6 72 where
 ht := Tryz.underlying45
 info := by
  obtain ⟨i, h0, h1, h2, h3⟩ := info_parts (show (Tryz.prog.info? 96).map (fun i => (i.zero, i.size, i.bytes)) = some (some (.agg #[.int .i64 0, .int .u8 0, .string ⟨#[]⟩, .int .u8 0, .string ⟨#[]⟩, .string ⟨#[]⟩]), 6, 72) by kernel_rfl)
  exact ⟨i, _, h0, h1, h2, h3, rfl⟩
 pos := by decide
theorem elemState : ElemOk Tryz.prog 44 104 8 80 where
 ht := Tryz.underlying44
 info := by
  obtain ⟨i, h0, h1, h2, h3⟩ := info_parts (show (Tryz.prog.info? 104).map (fun i => (i.zero, i.size, i.bytes)) = some (some (.agg #[.int .u8 0, .int .i64 0, .int .i64 0, .int .i64 0, .int .i64 0, .int .i64 0, .string ⟨#[]⟩, .string ⟨#[]⟩]), 8, 80) by kernel_rfl)
  exact ⟨i, _, h0, h1, h2, h3, rfl⟩
 pos := by decide

def nmC (s : ByteArray) (p : Pn) : UInt8 := tkC s 65 90 p.i p.bad
def nmP (s : ByteArray) (p : Pn) : Pn := { p with i := tkI s 65 90 p.i p.bad, bad := tkB s 65 90 p.i p.bad, re := if tkB s 65 90 p.i p.bad < 0 then p.re ++ [⟨nmC s p, p.i⟩] else p.re }

set_option maxRecDepth 100000 in
set_option maxHeartbeats 400000 in
theorem name_any (w : World) (b : Nat) (s : ByteArray) (p : Pn) (vs : Vs) (hp : PenV w b s p vs) (hs : s.size ≤ 1000000) (hn : p.i ≤ s.size) (hr : p.re.length ≤ 1000000) :
  Calls Tryz.prog 72 #[.pointer (some ⟨b, 0, none⟩)] w fun e w' => e = .returned (.int .u8 (nmC s p).toNat) ∧ ∃ vs', PenV w' b s (nmP s p) vs' ∧ Ev b vs vs' w w' := by
 obtain ⟨c0, c1, c2, -, -, -, -, hfz⟩ := hp.blk.cells
 clear hfz
 go_enter Tryz.func72, Tryz.ntmps72
 go_wp2_with fail
 refine (take_at _ b s 65 90 65 90 rfl rfl p.i p.bad vs.v3 vs.v4 vs.v5 vs.v6 hp.blk (by omega)).mono ?_
 rintro e w1 ⟨rfl, hp1, hf1⟩
 have hpv := hp.move hp1 hf1
 obtain ⟨d0, d1, d2, d3, d4, d5, d6, hfz⟩ := hp1.cells
 have hz5 := hfz 5
 have hb1 := Blk.lt hp1
 clear hfz c0 c1 c2
 by_cases hb : tkB s 65 90 p.i p.bad < 0
 ·have HP : Hid (nmP s p = { p with i := tkI s 65 90 p.i p.bad, bad := tkB s 65 90 p.i p.bad, re := p.re ++ [⟨nmC s p, p.i⟩] }) := by show _ = _; rw [nmP, if_pos hb]
  go_wp2_with (at_builtin; go_must (refine wpList_append1 rfl _ _ _ rfl _ 2 16 elemRef _ p.re.length (p.re.flatMap RfR.cells) rfl ((hpv.alloc _).r5) ⟨w1.heap.size, 0, none⟩ 1 (RfR.cells ⟨nmC s p, p.i⟩) rfl rfl (by exact cell_two_new _ _ _ _) (by intro u hu; simp [RfR.cells] at hu; rcases hu with rfl | rfl <;> rfl) (by unfold maxLen; omega) (by omega) ?_); intro g cap w2 hrow hgrow hgo; obtain ⟨k5, kz5⟩ := (hpv.alloc _).after5 hgrow)
  go_ret
  obtain ⟨q1, q2⟩ := (hpv.alloc _).push5 ⟨nmC s p, p.i⟩ hrow hgrow hgo
  refine ⟨rfl, _, by rw [HP.out]; exact q1, ?_⟩
  exact (Ev.alloc (Ev.of_fr hf1) _).trans q2
 ·have HP : Hid (nmP s p = { p with i := tkI s 65 90 p.i p.bad, bad := tkB s 65 90 p.i p.bad, re := p.re }) := by show _ = _; rw [nmP, if_neg hb]
  go_wp2_with fail
  go_ret
  exact ⟨rfl, vs, by rw [HP.out]; exact hpv, Ev.of_fr hf1⟩

structure Inv (s : ByteArray) (p : Pn) : Prop where
 i : p.i ≤ s.size
 st : p.st.length ≤ p.i
 tr : p.tr.length ≤ p.i
 re : p.re.length ≤ p.i
 ma : p.ma.length ≤ p.i

theorem tkB_neg (s : ByteArray) (lo hi : UInt8) (i : Nat) (bad : Int) (h : tkB s lo hi i bad < 0) : bad < 0 ∧ tkOk s lo hi i = true ∧ tkI s lo hi i bad = i + 1 ∧ tkB s lo hi i bad = bad ∧ i < s.size ∧ tkC s lo hi i bad = byte s i := by
 unfold tkB at h ⊢
 unfold tkI tkC
 split at h
 ·omega
 ·split at h
  ·rename_i h1 h2
   have h3 := h2
   simp [tkOk] at h3
   refine ⟨h, h2, ?_, ?_, h3.1.1, ?_⟩ <;> simp [h1, h2]
  ·omega

theorem ahd_pos (s : ByteArray) (i : Nat) (bad : Int) (h : ahd s i bad ≠ 0) : bad < 0 ∧ i < s.size ∧ ahd s i bad = byte s i := by
 unfold ahd at h ⊢
 split at h
 ·rename_i hb
  refine ⟨hb, ?_, by rw [if_pos hb]⟩
  by_cases e : i < s.size
  ·exact e
  ·exact absurd (byte_out s i e) h
 ·exact absurd rfl h

theorem Inv.nm {s : ByteArray} {p : Pn} (h : Inv s p) : Inv s (nmP s p) ∧ p.i ≤ (nmP s p).i := by
 have hb := tkI_bd s 65 90 p.i p.bad h.i
 obtain ⟨h1, h2, h3, h4, h5⟩ := h
 refine ⟨⟨hb.2, ?_, ?_, ?_, ?_⟩, hb.1⟩ <;> simp only [nmP]
 ·omega
 ·omega
 ·split
  ·have := (tkB_neg s 65 90 p.i p.bad ‹_›).2.2.1
   simp; omega
  ·omega
 ·omega

theorem Inv.to {s : ByteArray} {p : Pn} (h : Inv s p) (i : Nat) (bad : Int) (h1 : p.i ≤ i) (h2 : i ≤ s.size) : Inv s { p with i := i, bad := bad } :=
 ⟨h2, Nat.le_trans h.st h1, Nat.le_trans h.tr h1, Nat.le_trans h.re h1, Nat.le_trans h.ma h1⟩

def isC (c : UInt8) : Bool := c == 38 || c == 33
def isM (c : UInt8) : Bool := c == 126 || c == 42

def cdF (s : ByteArray) : Nat → Pn → ByteArray → Pn × ByteArray
 | 0, p, a => (p, a)
 | f + 1, p, a => if isC (ahd s p.i p.bad) = true then cdF s f (nmP s { p with i := p.i + 1 }) (a ++ ⟨#[ahd s p.i p.bad, nmC s { p with i := p.i + 1 }]⟩) else (p, a)
def cd (s : ByteArray) (p : Pn) (a : ByteArray) : Pn × ByteArray := cdF s (s.size - p.i) p a

theorem isC_in (s : ByteArray) (i : Nat) (bad : Int) (h : isC (ahd s i bad) = true) : bad < 0 ∧ i < s.size := by
 have := ahd_pos s i bad (by intro e; rw [e] at h; simp [isC] at h)
 exact ⟨this.1, this.2.1⟩
theorem isM_in (s : ByteArray) (i : Nat) (bad : Int) (h : isM (ahd s i bad) = true) : bad < 0 ∧ i < s.size := by
 have := ahd_pos s i bad (by intro e; rw [e] at h; simp [isM] at h)
 exact ⟨this.1, this.2.1⟩

theorem nmP_ge (s : ByteArray) (p : Pn) (h : p.i ≤ s.size) : p.i ≤ (nmP s p).i ∧ (nmP s p).i ≤ s.size := tkI_bd s 65 90 p.i p.bad h

theorem cdF_more (s : ByteArray) : ∀ (f g : Nat) (p : Pn) (a : ByteArray), p.i ≤ s.size → s.size - p.i ≤ f → s.size - p.i ≤ g → cdF s f p a = cdF s g p a
 | 0, 0, _, _, _, _, _ => rfl
 | 0, g + 1, p, a, hi, h1, _ => by
  simp only [cdF]
  split
  ·have := (isC_in s p.i p.bad ‹_›).2; omega
  ·rfl
 | f + 1, 0, p, a, hi, _, h2 => by
  simp only [cdF]
  split
  ·have := (isC_in s p.i p.bad ‹_›).2; omega
  ·rfl
 | f + 1, g + 1, p, a, hi, h1, h2 => by
  simp only [cdF]
  split
  ·have hi2 := (isC_in s p.i p.bad ‹_›).2
   have hge := nmP_ge s { p with i := p.i + 1 } hi2
   simp only at hge
   exact cdF_more s f g _ _ hge.2 (by omega) (by omega)
  ·rfl

theorem cd_go (s : ByteArray) (p : Pn) (a : ByteArray) (hi : p.i ≤ s.size) (h : isC (ahd s p.i p.bad) = true) :
  cd s p a = cd s (nmP s { p with i := p.i + 1 }) (a ++ ⟨#[ahd s p.i p.bad, nmC s { p with i := p.i + 1 }]⟩) := by
 have hi2 := (isC_in s p.i p.bad h).2
 have hge := nmP_ge s { p with i := p.i + 1 } hi2
 simp only at hge
 unfold cd
 rw [show s.size - p.i = (s.size - (p.i + 1)) + 1 by omega]
 simp only [cdF]
 rw [if_pos h]
 exact cdF_more s _ _ _ _ hge.2 (by omega) (by omega)

theorem cd_stop (s : ByteArray) (p : Pn) (a : ByteArray) (h : isC (ahd s p.i p.bad) = false) : cd s p a = (p, a) := by
 unfold cd
 cases s.size - p.i with
 | zero => rfl
 | succ n => simp [cdF, h]

theorem isC_iff (c : UInt8) : isC c = true ↔ ((c.toNat : Int) == 38) = true ∨ ((c.toNat : Int) == 33) = true := by
 simp only [isC, Bool.or_eq_true, beq_iff_eq, ← UInt8.toNat_inj]
 show (c.toNat = 38 ∨ c.toNat = 33) ↔ _
 omega
theorem isM_iff (c : UInt8) : isM c = true ↔ ((c.toNat : Int) == 126) = true ∨ ((c.toNat : Int) == 42) = true := by
 simp only [isM, Bool.or_eq_true, beq_iff_eq, ← UInt8.toNat_inj]
 show (c.toNat = 126 ∨ c.toNat = 42) ↔ _
 omega

def tr1 (s : ByteArray) (p : Pn) : Pn := { p with i := tkI s 97 122 (p.i + 1) p.bad, bad := tkB s 97 122 (p.i + 1) p.bad }
def trE (s : ByteArray) (p : Pn) : UInt8 := tkC s 97 122 (p.i + 1) p.bad
def tr2 (s : ByteArray) (p : Pn) : Pn := (cd s (tr1 s p) ⟨#[]⟩).1
def trC (s : ByteArray) (p : Pn) : ByteArray := (cd s (tr1 s p) ⟨#[]⟩).2
def tr3 (s : ByteArray) (q : Pn) : Pn := { q with i := tkI s 62 62 q.i q.bad, bad := tkB s 62 62 q.i q.bad }
def tr5 (s : ByteArray) (q : Pn) (t : UInt8) : Pn := if isM (ahd s q.i q.bad) = true then { q with ma := q.ma ++ [⟨t, q.i⟩], i := q.i + 1 } else q
def trM (s : ByteArray) (q : Pn) : ByteArray := if isM (ahd s q.i q.bad) = true then ⟨#[ahd s q.i q.bad]⟩ else ⟨#[]⟩
def tr6 (s : ByteArray) (q : Pn) : Pn := { q with i := dgI s q.i q.bad }
def trZ (s : ByteArray) (own : Nat) (ev : UInt8) (cds : ByteArray) (q : Pn) : Pn :=
 {tr6 s (tr5 s (nmP s (tr3 s q)) (nmC s (tr3 s q))) with
  tr := (tr5 s (nmP s (tr3 s q)) (nmC s (tr3 s q))).tr ++ [⟨own, ev, cds, nmC s (tr3 s q), trM s (nmP s (tr3 s q)), dgS s (tr5 s (nmP s (tr3 s q)) (nmC s (tr3 s q))).i (tr5 s (nmP s (tr3 s q)) (nmC s (tr3 s q))).bad⟩] }
def trP (s : ByteArray) (own : Nat) (p : Pn) : Pn := trZ s own (trE s p) (trC s p) (tr2 s p)


def rcF (s : ByteArray) : Nat → Nat → List CdP → Bool × Nat × List CdP
 | 0, i, a => (true, i, a)
 | f + 1, i, a => if isC (byte s i) = true then (if isN (byte s (i + 1)) = true then rcF s f (i + 2) (a ++ [⟨byte s (i + 1), i + 1, -1, byte s i == 38⟩]) else (false, i + 1, a)) else (true, i, a)
def rcP (s : ByteArray) (i : Nat) (a : List CdP) : Bool × Nat × List CdP := rcF s (s.size - i) i a

theorem isC_b (s : ByteArray) (i : Nat) (h : isC (byte s i) = true) : i < s.size := by
 by_cases e : i < s.size
 ·exact e
 ·rw [byte_out s i e] at h; simp [isC] at h
theorem isN_b (s : ByteArray) (i : Nat) (h : isN (byte s i) = true) : i < s.size := by
 by_cases e : i < s.size
 ·exact e
 ·rw [byte_out s i e] at h; simp [isN] at h

theorem rcF_more (s : ByteArray) : ∀ (f g i : Nat) (a : List CdP), s.size - i ≤ f → s.size - i ≤ g → rcF s f i a = rcF s g i a
 | 0, 0, _, _, _, _ => rfl
 | 0, g + 1, i, a, h1, _ => by
  simp only [rcF]
  split
  ·have := isC_b s i ‹_›; omega
  ·rfl
 | f + 1, 0, i, a, _, h2 => by
  simp only [rcF]
  split
  ·have := isC_b s i ‹_›; omega
  ·rfl
 | f + 1, g + 1, i, a, h1, h2 => by
  simp only [rcF]
  split
  ·split
   ·exact rcF_more s f g _ _ (by omega) (by omega)
   ·rfl
  ·rfl
theorem rcP_go (s : ByteArray) (i : Nat) (a : List CdP) (h : isC (byte s i) = true) (h2 : isN (byte s (i + 1)) = true) : rcP s i a = rcP s (i + 2) (a ++ [⟨byte s (i + 1), i + 1, -1, byte s i == 38⟩]) := by
 have := isC_b s i h
 unfold rcP
 rw [show s.size - i = (s.size - (i + 1)) + 1 by omega]
 simp only [rcF]
 rw [if_pos h, if_pos h2]
 exact rcF_more s _ _ _ _ (by omega) (by omega)
theorem rcP_bad (s : ByteArray) (i : Nat) (a : List CdP) (h : isC (byte s i) = true) (h2 : isN (byte s (i + 1)) = false) : rcP s i a = (false, i + 1, a) := by
 have := isC_b s i h
 unfold rcP
 rw [show s.size - i = (s.size - (i + 1)) + 1 by omega]
 simp only [rcF]
 rw [if_pos h, if_neg (by simp [h2])]
theorem rcP_stop (s : ByteArray) (i : Nat) (a : List CdP) (h : isC (byte s i) = false) : rcP s i a = (true, i, a) := by
 unfold rcP
 cases s.size - i with
 | zero => rfl
 | succ n => simp [rcF, h]

def CdPost (s : ByteArray) (b : Nat) (i : Nat) (w : World) (e : Ending) (w' : World) : Prop :=
 ∃ cv, e = .returned (.tuple #[cv, .bool (rcP s i []).1]) ∧ RdB w' b s (rcP s i []).2.1 ∧ Fr (· = b) w w' ∧ w'.ownsRow 0 123 4 cv (rcP s i []).2.2.length ((rcP s i []).2.2.flatMap CdP.cells) ∧ (∀ k, cv.ownBlock = some k → w.heap.size ≤ k) ∧ (rcP s i []).2.2.length ≤ s.size

set_option maxRecDepth 100000 in
set_option maxHeartbeats 1000000 in
theorem readConds_any (w : World) (b : Nat) (s : ByteArray) (i : Nat) (hp : RdB w b s i) (hs : s.size ≤ 1000000) (hn : i ≤ s.size) :
  Calls Tryz.prog 98 #[.pointer (some ⟨b, 0, none⟩)] w (CdPost s b i w) := by
 have hbl := Blk.lt hp
 go_enter Tryz.func98, Tryz.ntmps98
 go_wp2_with fail
 refine (next_any _ b s i (by exact Blk.alloc hp _)).mono ?_
 rintro e w1 ⟨rfl, n1, rfl⟩
 go_wp2_with fail
 go_loopg [4, 5] (s.size + 1 - i) (fun g vc vs wr => ∃ (k : Nat) (a : List CdP) (cv : Value), RdB wr b s k ∧ Fr (· = b) w wr ∧ wr.ownsRow 0 123 4 cv a.length (a.flatMap CdP.cells) ∧ (∀ j, cv.ownBlock = some j → w.heap.size ≤ j) ∧ vc = cv ∧ vs = .int .u8 (byte s k).toNat ∧ Hid (rcP s i [] = rcP s k a) ∧ a.length ≤ k ∧ k ≤ s.size ∧ s.size + 1 - k ≤ g)
 case atStart =>
  refine ⟨i, [], _, Blk.drewN (Blk.alloc hp _) n1, ((Fr.refl _ _).allocr _).drewNr n1, World.ownsRow_made w #[] 0 (Nat.zero_le _) (Nat.zero_le _) rfl, ?_, rfl, rfl, rfl, Nat.zero_le _, hn, Nat.le_refl _⟩
  intro j hj
  simp only [Value.ownBlock, Option.some.injEq] at hj
  omega
 case round =>
  obtain ⟨k, a, cv, hpk, hfr, hrow, hlo, hcv, rfl, HC, hak, hks, hg⟩ := hrel
  have hcv' := hcv.symm
  clear hcv
  subst hcv'
  obtain ⟨c0, c1, hfz⟩ := hpk.cells
  have z1 := hfz 1
  have hblk := Blk.lt hpk
  clear hfz
  by_cases hc : isC (byte s k) = true
  ·have hki := isC_b s k hc
   have hc38 : ((((byte s k).toNat : Int) == 38) = true ∧ Hid ((byte s k == 38) = true)) ∨ ((((byte s k).toNat : Int) == 38) = false ∧ (((byte s k).toNat : Int) == 33) = true ∧ Hid ((byte s k == 38) = false)) := by
    cases e : (((byte s k).toNat : Int) == 38)
    ·refine Or.inr ⟨rfl, ?_, ?_⟩
     ·rcases (isC_iff _).1 hc with h | h
      ·rw [e] at h; cases h
      ·exact h
     ·show _ = _
      rw [beq_eq_false_iff_ne] at e ⊢
      intro h
      rw [h] at e
      exact e rfl
    ·refine Or.inl ⟨rfl, ?_⟩
     show _ = _
     rw [beq_iff_eq] at e ⊢
     exact UInt8.toNat_inj.1 (by show _ = 38; omega)
   have HC1 : Hid (isC (byte s k) = true) := hc
   clear hc
   by_cases hd : isN (byte s (k + 1)) = true
   ·have hkj := isN_b s (k + 1) hd
    have HC2 : Hid (rcP s i [] = rcP s (k + 2) (a ++ [⟨byte s (k + 1), k + 1, -1, byte s k == 38⟩])) := HC.out.trans (rcP_go s k a HC1.out hd)
    have HD : Hid (isN (byte s (k + 1)) = true) := hd
    clear hd
    rcases hc38 with ⟨h1, HA⟩ | ⟨h0, h1, HA⟩
    all_goals
     go_wp2_with fail
     refine (readRef_any _ b s (k + 1) (by exact Blk.set hpk 1 _) hs (by omega)).mono ?_
     rintro e w2 ⟨hy, -, hf2⟩
     obtain ⟨rfl, hp2⟩ := hy HD.out
     clear hy
     have hfr2 : Fr (· = b) w w2 := (hfr.setCellr _ _ (Or.inl rfl)).thenr hf2 (fun _ _ h => h)
     have hrow2 : w2.ownsRow 0 123 4 cv a.length (a.flatMap CdP.cells) := row_fr (row_fr hrow (Fr.setCell (· = b) _ ⟨b, 1, none⟩ (.int .i64 ((k : Int) + 1)) rfl) (fun j hj e => by have := hlo j hj; omega)) hf2 (fun j hj e => by have := hlo j hj; omega)
     have hbl2 := Blk.lt hp2
     clear hf2 hfr hrow c0 c1 z1 hblk
     obtain ⟨c0, c1, hfz⟩ := hp2.cells
     clear hfz
     go_wp2_with (at_builtin; go_must (refine wpList_append1 rfl _ _ _ rfl _ 4 32 elemCond _ a.length (a.flatMap CdP.cells) rfl (by exact (hrow2.alloc _).alloc _) ⟨w2.heap.size + 1, 0, none⟩ 1 (CdP.cells ⟨byte s (k + 1), k + 1, -1, byte s k == 38⟩) rfl rfl (by rw [show CdP.cells ⟨byte s (k + 1), k + 1, -1, byte s k == 38⟩ = [.int .u8 (byte s (k + 1)).toNat, .int .i64 ((k + 1 : Nat) : Int), .int .i64 (-1), .bool _] from rfl, HA.out]; exact cells_new (Blk.new' _ _ _ _ (by simp))) (by intro u hu; simp [CdP.cells] at hu; rcases hu with rfl | rfl | rfl | rfl <;> rfl) (by unfold maxLen; omega) (by omega) ?_); intro g cap w3 hrow3 hgrow hgo)
     have hG3 : Fr (fun j => cv.ownBlock = some j) _ w3 := Fr.grown (fun j => cv.ownBlock = some j) hgrow (fun _ e => e)
     have hp3 : RdB w3 b s (k + 2) := Blk.fr (Blk.alloc (Blk.alloc hp2 _) _) hG3 (fun e => by have := hlo b e; omega)
     have hfr3 : Fr (· = b) w w3 := ((hfr2.allocr _).allocr _).thenr hG3 (fun j hj e => by have := hlo j e; omega)
     have hlo3 : w.heap.size ≤ g := by
      rcases hgo with e | e
      ·exact hlo g e
      ·have := hfr2.size; simp at e; omega
     refine (next_any _ b s (k + 2) hp3).mono ?_
     rintro e w4 ⟨rfl, n4, rfl⟩
     go_wp2_with fail
     go_roundg (s.size + 1 - (k + 2))
     case measure => omega
     case rel =>
      refine ⟨k + 2, a ++ [⟨byte s (k + 1), k + 1, -1, byte s k == 38⟩], _, Blk.drewN hp3 _, hfr3.drewNr _, ?_, ?_, rfl, rfl, HC2, by simp; omega, by omega, Nat.le_refl _⟩
      ·have h5 : (w3.drewN n4).ownsRow 0 123 4 _ _ _ := row_fr hrow3 (Fr.drewN (fun _ => False) w3 n4) (fun _ _ h => h)
       simpa using h5
      ·intro j hj
       simp only [Value.ownBlock, Option.some.injEq] at hj
       omega
   ·have hd' : isN (byte s (k + 1)) = false := by simpa using hd
    have HC2 : Hid (rcP s i [] = (false, k + 1, a)) := HC.out.trans (rcP_bad s k a HC1.out hd')
    have HD : Hid (isN (byte s (k + 1)) = false) := hd'
    clear hd hd'
    rcases hc38 with ⟨h1, HA⟩ | ⟨h0, h1, HA⟩
    all_goals
     go_wp2_with fail
     refine (readRef_any _ b s (k + 1) (by exact Blk.set hpk 1 _) hs (by omega)).mono ?_
     rintro e w2 ⟨-, hy, hf2⟩
     obtain ⟨rfl, hp2⟩ := hy HD.out
     clear hy
     have hfr2 : Fr (· = b) w w2 := (hfr.setCellr _ _ (Or.inl rfl)).thenr hf2 (fun _ _ h => h)
     have hrow2 : w2.ownsRow 0 123 4 cv a.length (a.flatMap CdP.cells) := row_fr (row_fr hrow (Fr.setCell (· = b) _ ⟨b, 1, none⟩ (.int .i64 ((k : Int) + 1)) rfl) (fun j hj e => by have := hlo j hj; omega)) hf2 (fun j hj e => by have := hlo j hj; omega)
     clear hf2 hfr hrow c0 c1 z1 hblk
     go_wp2_with fail
     go_ret2
     exact ⟨cv, by rw [HC2.out]; rfl, by rw [HC2.out]; exact Blk.alloc hp2 _, hfr2.allocr _, by rw [HC2.out]; exact hrow2.alloc _, hlo, by rw [HC2.out]; show a.length ≤ s.size; omega⟩
  ·have hc' : isC (byte s k) = false := by simpa using hc
   have HC2 : Hid (rcP s i [] = (true, k, a)) := HC.out.trans (rcP_stop s k a hc')
   have h38 : (((byte s k).toNat : Int) == 38) = false := by
    cases e : (((byte s k).toNat : Int) == 38)
    ·rfl
    ·exact absurd ((isC_iff _).2 (Or.inl e)) hc
   have h33 : (((byte s k).toNat : Int) == 33) = false := by
    cases e : (((byte s k).toNat : Int) == 33)
    ·rfl
    ·exact absurd ((isC_iff _).2 (Or.inr e)) hc
   clear hc hc'
   go_wp2_with fail
   go_ret2
   exact ⟨cv, by rw [HC2.out]; rfl, by rw [HC2.out]; exact hpk, hfr, by rw [HC2.out]; exact hrow, hlo, by rw [HC2.out]; show a.length ≤ s.size; omega⟩

def rtP (s : ByteArray) (own i : Nat) : Bool × Nat × TrQ :=
 let z : TrQ := ⟨0, 0, [], 0, 0, 0, 0, 0, ⟨#[]⟩⟩
 if isE (byte s (i + 1)) = false then (false, i + 1, z)
 else if (rcP s (i + 2) []).1 = false then (false, (rcP s (i + 2) []).2.1, z)
 else if byte s (rcP s (i + 2) []).2.1 ≠ 62 then (false, (rcP s (i + 2) []).2.1, z)
 else if isN (byte s ((rcP s (i + 2) []).2.1 + 1)) = false then (false, (rcP s (i + 2) []).2.1 + 1, z)
 else (true, dend s (rmI s ((rcP s (i + 2) []).2.1 + 2)),
  ⟨own, byte s (i + 1), (rcP s (i + 2) []).2.2, byte s ((rcP s (i + 2) []).2.1 + 1), (rcP s (i + 2) []).2.1 + 1, -1, rmC s ((rcP s (i + 2) []).2.1 + 2), (rcP s (i + 2) []).2.1 + 2, cut s (rmI s ((rcP s (i + 2) []).2.1 + 2)) (dend s (rmI s ((rcP s (i + 2) []).2.1 + 2)))⟩)

theorem rcF_bd (s : ByteArray) : ∀ (f i : Nat) (a : List CdP), i ≤ s.size → i ≤ (rcF s f i a).2.1 ∧ (rcF s f i a).2.1 ≤ s.size
 | 0, i, a, h => ⟨Nat.le_refl _, h⟩
 | f + 1, i, a, h => by
  simp only [rcF]
  split
  ·have h1 := isC_b s i ‹_›
   split
   ·have h2 := isN_b s (i + 1) ‹_›
    have := rcF_bd s f (i + 2) (a ++ [⟨byte s (i + 1), i + 1, -1, byte s i == 38⟩]) (by omega)
    omega
   ·simp only; omega
  ·exact ⟨Nat.le_refl _, h⟩
theorem rcP_bd (s : ByteArray) (i : Nat) (a : List CdP) (h : i ≤ s.size) : i ≤ (rcP s i a).2.1 ∧ (rcP s i a).2.1 ≤ s.size := rcF_bd s _ i a h
theorem isMk_b (s : ByteArray) (i : Nat) (h : isMk (byte s i) = true) : i < s.size := by
 by_cases e : i < s.size
 ·exact e
 ·rw [byte_out s i e] at h; simp [isMk] at h
theorem rmI_bd (s : ByteArray) (i : Nat) (h : i ≤ s.size) : i ≤ rmI s i ∧ rmI s i ≤ s.size := by
 unfold rmI; split
 ·have := isMk_b s i ‹_›; omega
 ·omega

def RdInv (s : ByteArray) (r : Rn) : Prop := r.i ≤ s.size ∧ r.st.length ≤ r.i ∧ r.tr.length ≤ r.i

def RPost (s : ByteArray) (q b : Nat) (ws : Ws) (w : World) (ok : Bool) (i' : Nat) (r' : Rn) (e : Ending) (w' : World) : Prop :=
 e = .returned (.bool ok) ∧ (ok = true → ∃ ws', RdV w' q b s r' ws' ∧ EvR q b ws ws' w w') ∧ (ok = false → RdB w' q s i' ∧ Fr (OwnQ q b ws) w w' ∧ PlAny w' b)

set_option maxRecDepth 100000 in
set_option maxHeartbeats 2000000 in
theorem readTrans_any (w : World) (q b : Nat) (s : ByteArray) (own : Nat) (r : Rn) (ws : Ws) (hp : RdV w q b s r ws) (hs : s.size ≤ 1000000) (hv : RdInv s r) (hn : r.i < s.size) :
  Calls Tryz.prog 81 #[.pointer (some ⟨q, 0, none⟩), .pointer (some ⟨b, 0, none⟩), .int .i64 own] w
   (RPost s q b ws w (rtP s own r.i).1 (rtP s own r.i).2.1 { r with i := (rtP s own r.i).2.1, tr := r.tr ++ [(rtP s own r.i).2.2] }) := by
 obtain ⟨c0, c1, hfz⟩ := hp.blk.cells
 have hz1 := hfz 1
 have hbl := Blk.lt hp.blk
 obtain ⟨hv1, hv2, hv3⟩ := hv
 clear hfz
 have hp1 := hp.step (r.i + 1) rfl
 have he1 := (EvR.refl q b ws w).setOwn 1 (.int .i64 ((r.i : Int) + 1))
 go_enter Tryz.func81, Tryz.ntmps81
 go_wp2_with fail
 refine (next_any _ q s _ hp1.blk).mono ?_
 rintro e w1 ⟨rfl, n1, rfl⟩
 go_wp2_with fail
 refine (isEvent_any _ _).mono ?_
 rintro e w1 ⟨rfl, rfl⟩
 have hp2 := hp1.drewN n1
 have he2 := he1.drewN n1
 generalize (w.setCell ⟨q, 1, none⟩ (.int .i64 ((r.i : Int) + 1))).drewN n1 = W1 at hp2 he2
 clear hp1 he1 c0 c1 hz1
 by_cases hE : isE (byte s (r.i + 1)) = false
 ·have HR : Hid (rtP s own r.i = (false, r.i + 1, ⟨0, 0, [], 0, 0, 0, 0, 0, ⟨#[]⟩⟩)) := by show _ = _; rw [rtP, if_pos hE]
  rw [hE]
  go_wp2_with fail
  go_ret
  rw [HR.out]
  exact ⟨rfl, fun h => (by cases h), fun _ => ⟨hp2.blk, he2.fr, hp2.bad⟩⟩
 ·have hE' : isE (byte s (r.i + 1)) = true := by simpa using hE
  have hi2 := isE_b s (r.i + 1) hE'
  rw [hE']
  have HE : Hid (¬ isE (byte s (r.i + 1)) = false) := hE
  clear hE hE'
  obtain ⟨c0, c1, hfz⟩ := hp2.blk.cells
  have hz1 := hfz 1
  clear hfz
  go_wp2_with fail
  have hp3 : RdV (W1.setCell ⟨q, 1, none⟩ (.int .i64 ((r.i : Int) + 1 + 1))) q b s { r with i := r.i + 2 } ws := hp2.step (r.i + 1 + 1) rfl
  have he3 := he2.setOwn 1 (.int .i64 ((r.i : Int) + 1 + 1))
  clear hp2 he2 c0 c1 hz1
  refine (readConds_any _ q s (r.i + 2) hp3.blk hs hi2).mono ?_
  rintro e w2 ⟨cv, rfl, hb2, hf2, hrow2, hlo2, hcl2⟩
  have hrb := rcP_bd s (r.i + 2) [] hi2
  have hp4 := hp3.move hb2 hf2
  have he4 := he3.trans (EvR.of_fr hf2)
  have hW0 := he3.fr.size
  have hlo3 : ∀ k, cv.ownBlock = some k → w.heap.size ≤ k := fun k hk => by have := hlo2 k hk; omega
  have hno3 : ∀ k, cv.ownBlock = some k → ¬ OwnQ q b ws k := fun k hk ho => by have := hlo3 k hk; have := hp.own_lt ho; omega
  clear hp3 he3 hb2 hf2 hlo2 hW0
  by_cases hC : (rcP s (r.i + 2) []).1 = false
  ·have HR : Hid (rtP s own r.i = (false, (rcP s (r.i + 2) []).2.1, ⟨0, 0, [], 0, 0, 0, 0, 0, ⟨#[]⟩⟩)) := by show _ = _; rw [rtP, if_neg HE.out, if_pos hC]
   rw [hC]
   go_wp2_with fail
   go_ret
   rw [HR.out]
   exact ⟨rfl, fun h => (by cases h), fun _ => ⟨hp4.blk, he4.fr, hp4.bad⟩⟩
  ·have hC' : (rcP s (r.i + 2) []).1 = true := by simpa using hC
   rw [hC']
   have HC : Hid (¬ (rcP s (r.i + 2) []).1 = false) := hC
   clear hC hC'
   generalize hJ : (rcP s (r.i + 2) []).2.1 = j at hp4 he4 hrb
   have HJ : Hid ((rcP s (r.i + 2) []).2.1 = j) := hJ
   clear hJ
   generalize hL : (rcP s (r.i + 2) []).2.2 = cl at hrow2 hcl2
   have HL : Hid ((rcP s (r.i + 2) []).2.2 = cl) := hL
   clear hL
   obtain ⟨ca, cc, hcv⟩ := row_len hrow2
   subst hcv
   go_wp2_with fail
   by_cases h62 : byte s j = 62
   ·have hj := sg_in s 62 j (by decide) h62
    have H62 : Hid (byte s j = 62) := h62
    clear h62
    refine (skip_yes _ q s 62 _ rfl j hp4.blk hs (by decide) H62.out).mono ?_
    rintro e W3 ⟨rfl, hb5, hf5⟩
    have hp6 := hp4.move hb5 hf5
    have he6 := he4.trans (EvR.of_fr hf5)
    have hrow4 := row_fr hrow2 hf5 (fun k hk e => hno3 k hk (Or.inl e))
    clear hp4 he4 hrow2 hb5 hf5
    go_wp2_with fail
    refine (readRef_any _ q s (j + 1) hp6.blk hs hj).mono ?_
    rintro e w4 ⟨hyes, hnot, hf4⟩
    have he7 := he6.trans (EvR.of_fr hf4)
    have hrow5 := row_fr hrow4 hf4 (fun k hk e => hno3 k hk (Or.inl e))
    clear hrow4 he6
    by_cases hN : isN (byte s (j + 1)) = false
    ·have HR : Hid (rtP s own r.i = (false, j + 1, ⟨0, 0, [], 0, 0, 0, 0, 0, ⟨#[]⟩⟩)) := by show _ = _; rw [rtP, if_neg HE.out, if_neg HC.out, HJ.out, if_neg (fun h => h H62.out), if_pos hN]
     obtain ⟨rfl, hb4⟩ := hnot hN
     clear hyes hnot
     go_wp2_with fail
     go_ret
     rw [HR.out]
     exact ⟨rfl, fun h => (by cases h), fun _ => ⟨Blk.alloc hb4 _, he7.fr.allocr _, ((hp6.move hb4 hf4).alloc _).bad⟩⟩
    ·have hN' : isN (byte s (j + 1)) = true := by simpa using hN
     have hj1 := isN_b s (j + 1) hN'
     have HR : Hid (rtP s own r.i = (true, dend s (rmI s (j + 2)), ⟨own, byte s (r.i + 1), cl, byte s (j + 1), j + 1, -1, rmC s (j + 2), j + 2, cut s (rmI s (j + 2)) (dend s (rmI s (j + 2)))⟩)) := by
      show _ = _; rw [rtP, if_neg HE.out, if_neg HC.out, HJ.out, if_neg (fun h => h H62.out), if_neg hN, HL.out]
     obtain ⟨rfl, hb4⟩ := hyes hN'
     clear hyes hnot hN hN' H62 HC HE
     have hp7 : RdV w4 q b s { r with i := j + 2 } ws := hp6.move hb4 hf4
     clear hp6 hb4 hf4
     obtain ⟨c0, c1, hfz⟩ := hp7.blk.cells
     have hbl4 := Blk.lt hp7.blk
     clear hfz
     go_wp2_with fail
     have hp8 := hp7.alloc (Obj.cells #[Value.int IntKind.u8 (byte s (j + 1)).toNat, Value.int IntKind.i64 ((j : Int) + 1), Value.int IntKind.i64 (-1)] 119)
     have he8 := he7.alloc (Obj.cells #[Value.int IntKind.u8 (byte s (j + 1)).toNat, Value.int IntKind.i64 ((j : Int) + 1), Value.int IntKind.i64 (-1)] 119)
     have hrow8 := hrow5.alloc (Obj.cells #[Value.int IntKind.u8 (byte s (j + 1)).toNat, Value.int IntKind.i64 ((j : Int) + 1), Value.int IntKind.i64 (-1)] 119)
     have htb := Blk.new w4 #[Value.int IntKind.u8 (byte s (j + 1)).toNat, Value.int IntKind.i64 ((j : Int) + 1), Value.int IntKind.i64 (-1)] 119
     have htno : ¬ OwnQ q b ws w4.heap.size := fun h => Nat.lt_irrefl _ (hp7.own_lt h)
     generalize hW8 : w4.alloc (Obj.cells #[Value.int IntKind.u8 (byte s (j + 1)).toNat, Value.int IntKind.i64 ((j : Int) + 1), Value.int IntKind.i64 (-1)] 119) = W8 at hp8 he8 hrow8 htb ⊢
     clear hW8
     generalize w4.heap.size = tq at htb htno
     clear hp7 he7 hrow5 c0 c1 hbl4
     refine (readMark_any _ q s (j + 2) hp8.blk hs hj1).mono ?_
     rintro e w5 ⟨rfl, hb5, hf5⟩
     have hm := rmI_bd s (j + 2) hj1
     have hp9 := hp8.move hb5 hf5
     have he9 := he8.trans (EvR.of_fr hf5)
     have hrow9 := row_fr hrow8 hf5 (fun k hk e => hno3 k hk (Or.inl e))
     have htb9 := Blk.fr htb hf5 (fun e => htno (Or.inl e))
     clear hp8 he8 hrow8 htb hb5 hf5
     go_wp2_with fail
     refine (readActions_any _ q s (rmI s (j + 2)) hp9.blk hs hm.2).mono ?_
     rintro e w6 ⟨rfl, hb6, hf6⟩
     have hpa := hp9.move hb6 hf6
     have hea := he9.trans (EvR.of_fr hf6)
     have hrowa := row_fr hrow9 hf6 (fun k hk e => hno3 k hk (Or.inl e))
     have htba := Blk.fr htb9 hf6 (fun e => htno (Or.inl e))
     clear hp9 he9 hrow9 htb9 hb6 hf6
     obtain ⟨-, c3, hfz⟩ := hpa.pb.cells
     have hz3 := hfz 1
     have t0 : w6.cell? ⟨tq, 0, none⟩ = some (.int .u8 (byte s (j + 1)).toNat) := by rw [Blk.cell htba]; rfl
     have t1 : w6.cell? ⟨tq, 1, none⟩ = some (.int .i64 ((j : Int) + 1)) := by rw [Blk.cell htba]; rfl
     have t2 : w6.cell? ⟨tq, 2, none⟩ = some (.int .i64 (-1)) := by rw [Blk.cell htba]; rfl
     have hbl6 := Blk.lt hpa.pb
     have htl6 := Blk.lt htba
     have hthl : ws.th.length ≤ 1000000 := by have h := congrArg List.length hpa.ht; simp only [List.length_map] at h; omega
     clear hfz
     go_wp2_with fail
     go_region_law (refine step_append1 rfl (.tmp 62) (.tmp 71) 37 rfl 121 9 96 elemPTrans ws.v3 ws.th.length (ws.th.flatMap TrH.cells) (by simp [Act.eval, Act.put]) (by exact ((hpa.drew).alloc _).r3) ⟨w6.heap.size, 0, none⟩ 1 (TrH.cells ⟨⟨own, byte s (r.i + 1), cl, byte s (j + 1), j + 1, -1, rmC s (j + 2), j + 2, cut s (rmI s (j + 2)) (dend s (rmI s (j + 2)))⟩, .slice ca cl.length cc⟩) (by simp [Act.eval, Act.put]) rfl (by exact cells_new (Blk.new' _ _ _ _ (by simp))) (by intro u hu; simp [TrH.cells] at hu; rcases hu with rfl | rfl | rfl | rfl | rfl | rfl | rfl | rfl | rfl <;> rfl) (by unfold maxLen; omega) (by omega) ?_; intro g cap w9 hrow hgrow hgo; have hb9 := ((hpa.drew).alloc _).after3 hgrow; have k3 := hb9.cells.2.1; have kz3 := hb9.cells.2.2 1)
     all_goals
      go_wp2_with fail
      go_ret
      obtain ⟨q1, q2⟩ := ((hpa.drew).alloc _).push3 ⟨⟨own, byte s (r.i + 1), cl, byte s (j + 1), j + 1, -1, rmC s (j + 2), j + 2, cut s (rmI s (j + 2)) (dend s (rmI s (j + 2)))⟩, .slice ca cl.length cc⟩ (by exact hrowa.alloc _) hno3 hrow hgrow hgo
      rw [HR.out]
      exact ⟨rfl, fun _ => ⟨_, q1, q2 w (hea.drew.alloc _) hlo3⟩, fun h => (by cases h)⟩
   ·have HR : Hid (rtP s own r.i = (false, j, ⟨0, 0, [], 0, 0, 0, 0, 0, ⟨#[]⟩⟩)) := by show _ = _; rw [rtP, if_neg HE.out, if_neg HC.out, HJ.out, if_pos h62]
    have H62 : Hid (byte s j ≠ 62) := h62
    clear h62
    refine (skip_no _ q s 62 _ rfl j hp4.blk H62.out).mono ?_
    rintro e W3 ⟨rfl, hb5, hf5⟩
    have hp5 := hp4.move hb5 hf5
    have he5 := he4.trans (EvR.of_fr hf5)
    go_wp2_with fail
    go_ret
    rw [HR.out]
    exact ⟨rfl, fun h => (by cases h), fun _ => ⟨hp5.blk, he5.fr, hp5.bad⟩⟩
end Go.Proofs.YtmolmbeeoecnfaaGreatDoor
