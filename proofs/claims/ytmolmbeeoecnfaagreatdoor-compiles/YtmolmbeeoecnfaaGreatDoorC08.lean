/- Own work: PenC. -/
import Derived.Test.YtmolmbeeoecnfaaGreatDoorC04
/- Own work: walks of the document's reader: name, trans. -/
namespace Go.Proofs.YtmolmbeeoecnfaaGreatDoor
open Go.RowKit Go.BigFrame
set_option linter.unusedVariables false
set_option linter.unusedSimpArgs false

theorem elemRef : ElemOk Tryz.prog 46 138 2 16 where
 ht := Tryz.underlying46
 info := by
  obtain ⟨i, h0, h1, h2, h3⟩ := info_parts (show (Tryz.prog.info? 138).map (fun i => (i.zero, i.size, i.bytes)) = some (some (.agg #[.int .u8 0, .int .i64 0]), 2, 16) by kernel_rfl)
  exact ⟨i, _, h0, h1, h2, h3, rfl⟩
 pos := by decide
theorem elemTrans : ElemOk Tryz.prog 45 96 6 72 where
 ht := Tryz.underlying45
 info := by
  obtain ⟨i, h0, h1, h2, h3⟩ := info_parts (show (Tryz.prog.info? 96).map (fun i => (i.zero, i.size, i.bytes)) = some (some (.agg #[.int .i64 0, .int .u8 0, .string ⟨#[]⟩, .int .u8 0, .string ⟨#[]⟩, .string ⟨#[]⟩]), 6, 72) by kernel_rfl)
  exact ⟨i, _, h0, h1, h2, h3, rfl⟩
 pos := by decide
theorem elemState : ElemOk Tryz.prog 44 104 8 80 where
 ht := Tryz.underlying44
 info := by
  obtain ⟨i, h0, h1, h2, h3⟩ := info_parts (show (Tryz.prog.info? 104).map (fun i => (i.zero, i.size, i.bytes)) = some (some (.agg #[.int .u8 0, .int .i64 0, .int .i64 0, .int .i64 0, .int .i64 0, .int .i64 0, .string ⟨#[]⟩, .string ⟨#[]⟩]), 8, 80) by kernel_rfl)
  exact ⟨i, _, h0, h1, h2, h3, rfl⟩
 pos := by decide

def nmC (s : ByteArray) (p : Pn) : UInt8 := tkC s 65 90 p.i p.bad
def nmP (s : ByteArray) (p : Pn) : Pn := { p with i := tkI s 65 90 p.i p.bad, bad := tkB s 65 90 p.i p.bad, re := if tkB s 65 90 p.i p.bad < 0 then p.re ++ [⟨nmC s p, p.i⟩] else p.re }

set_option maxRecDepth 100000 in
set_option maxHeartbeats 400000 in
theorem name_any (w : World) (b : Nat) (s : ByteArray) (p : Pn) (vs : Vs) (hp : PenV w b s p vs) (hs : s.size ≤ 1000000) (hn : p.i ≤ s.size) (hr : p.re.length ≤ 1000000) :
  Calls Tryz.prog 72 #[.pointer (some ⟨b, 0, none⟩)] w fun e w' => e = .returned (.int .u8 (nmC s p).toNat) ∧ ∃ vs', PenV w' b s (nmP s p) vs' ∧ Ev b vs vs' w w' := by
 obtain ⟨c0, c1, c2, -, -, -, -, hfz⟩ := hp.blk.cells
 clear hfz
 go_enter Tryz.func72, Tryz.ntmps72
 go_wp2_with fail
 refine (take_at _ b s 65 90 65 90 rfl rfl p.i p.bad vs.v3 vs.v4 vs.v5 vs.v6 hp.blk (by omega)).mono ?_
 rintro e w1 ⟨rfl, hp1, hf1⟩
 have hpv := hp.move hp1 hf1
 obtain ⟨d0, d1, d2, d3, d4, d5, d6, hfz⟩ := hp1.cells
 have hz5 := hfz 5
 have hb1 := Blk.lt hp1
 clear hfz c0 c1 c2
 by_cases hb : tkB s 65 90 p.i p.bad < 0
 ·have HP : Hid (nmP s p = { p with i := tkI s 65 90 p.i p.bad, bad := tkB s 65 90 p.i p.bad, re := p.re ++ [⟨nmC s p, p.i⟩] }) := by show _ = _; rw [nmP, if_pos hb]
  go_wp2_with (at_builtin; go_must (refine wpList_append1 rfl _ _ _ rfl _ 2 16 elemRef _ p.re.length (p.re.flatMap RfR.cells) rfl ((hpv.alloc _).r5) ⟨w1.heap.size, 0, none⟩ 1 (RfR.cells ⟨nmC s p, p.i⟩) rfl rfl (by exact cell_two_new _ _ _ _) (by intro u hu; simp [RfR.cells] at hu; rcases hu with rfl | rfl <;> rfl) (by unfold maxLen; omega) (by omega) ?_); intro g cap w2 hrow hgrow hgo; obtain ⟨k5, kz5⟩ := (hpv.alloc _).after5 hgrow)
  go_ret
  obtain ⟨q1, q2⟩ := (hpv.alloc _).push5 ⟨nmC s p, p.i⟩ hrow hgrow hgo
  refine ⟨rfl, _, by rw [HP.out]; exact q1, ?_⟩
  exact (Ev.alloc (Ev.of_fr hf1) _).trans q2
 ·have HP : Hid (nmP s p = { p with i := tkI s 65 90 p.i p.bad, bad := tkB s 65 90 p.i p.bad, re := p.re }) := by show _ = _; rw [nmP, if_neg hb]
  go_wp2_with fail
  go_ret
  exact ⟨rfl, vs, by rw [HP.out]; exact hpv, Ev.of_fr hf1⟩

structure Inv (s : ByteArray) (p : Pn) : Prop where
 i : p.i ≤ s.size
 st : p.st.length ≤ p.i
 tr : p.tr.length ≤ p.i
 re : p.re.length ≤ p.i
 ma : p.ma.length ≤ p.i

theorem tkB_neg (s : ByteArray) (lo hi : UInt8) (i : Nat) (bad : Int) (h : tkB s lo hi i bad < 0) : bad < 0 ∧ tkOk s lo hi i = true ∧ tkI s lo hi i bad = i + 1 ∧ tkB s lo hi i bad = bad ∧ i < s.size ∧ tkC s lo hi i bad = byte s i := by
 unfold tkB at h ⊢
 unfold tkI tkC
 split at h
 ·omega
 ·split at h
  ·rename_i h1 h2
   have h3 := h2
   simp [tkOk] at h3
   refine ⟨h, h2, ?_, ?_, h3.1.1, ?_⟩ <;> simp [h1, h2]
  ·omega

theorem ahd_pos (s : ByteArray) (i : Nat) (bad : Int) (h : ahd s i bad ≠ 0) : bad < 0 ∧ i < s.size ∧ ahd s i bad = byte s i := by
 unfold ahd at h ⊢
 split at h
 ·rename_i hb
  refine ⟨hb, ?_, by rw [if_pos hb]⟩
  by_cases e : i < s.size
  ·exact e
  ·exact absurd (byte_out s i e) h
 ·exact absurd rfl h

theorem Inv.nm {s : ByteArray} {p : Pn} (h : Inv s p) : Inv s (nmP s p) ∧ p.i ≤ (nmP s p).i := by
 have hb := tkI_bd s 65 90 p.i p.bad h.i
 obtain ⟨h1, h2, h3, h4, h5⟩ := h
 refine ⟨⟨hb.2, ?_, ?_, ?_, ?_⟩, hb.1⟩ <;> simp only [nmP]
 ·omega
 ·omega
 ·split
  ·have := (tkB_neg s 65 90 p.i p.bad ‹_›).2.2.1
   simp; omega
  ·omega
 ·omega

theorem Inv.to {s : ByteArray} {p : Pn} (h : Inv s p) (i : Nat) (bad : Int) (h1 : p.i ≤ i) (h2 : i ≤ s.size) : Inv s { p with i := i, bad := bad } :=
 ⟨h2, Nat.le_trans h.st h1, Nat.le_trans h.tr h1, Nat.le_trans h.re h1, Nat.le_trans h.ma h1⟩

def isC (c : UInt8) : Bool := c == 38 || c == 33
def isM (c : UInt8) : Bool := c == 126 || c == 42

def cdF (s : ByteArray) : Nat → Pn → ByteArray → Pn × ByteArray
 | 0, p, a => (p, a)
 | f + 1, p, a => if isC (ahd s p.i p.bad) = true then cdF s f (nmP s { p with i := p.i + 1 }) (a ++ ⟨#[ahd s p.i p.bad, nmC s { p with i := p.i + 1 }]⟩) else (p, a)
def cd (s : ByteArray) (p : Pn) (a : ByteArray) : Pn × ByteArray := cdF s (s.size - p.i) p a

theorem isC_in (s : ByteArray) (i : Nat) (bad : Int) (h : isC (ahd s i bad) = true) : bad < 0 ∧ i < s.size := by
 have := ahd_pos s i bad (by intro e; rw [e] at h; simp [isC] at h)
 exact ⟨this.1, this.2.1⟩
theorem isM_in (s : ByteArray) (i : Nat) (bad : Int) (h : isM (ahd s i bad) = true) : bad < 0 ∧ i < s.size := by
 have := ahd_pos s i bad (by intro e; rw [e] at h; simp [isM] at h)
 exact ⟨this.1, this.2.1⟩

theorem nmP_ge (s : ByteArray) (p : Pn) (h : p.i ≤ s.size) : p.i ≤ (nmP s p).i ∧ (nmP s p).i ≤ s.size := tkI_bd s 65 90 p.i p.bad h

theorem cdF_more (s : ByteArray) : ∀ (f g : Nat) (p : Pn) (a : ByteArray), p.i ≤ s.size → s.size - p.i ≤ f → s.size - p.i ≤ g → cdF s f p a = cdF s g p a
 | 0, 0, _, _, _, _, _ => rfl
 | 0, g + 1, p, a, hi, h1, _ => by
  simp only [cdF]
  split
  ·have := (isC_in s p.i p.bad ‹_›).2; omega
  ·rfl
 | f + 1, 0, p, a, hi, _, h2 => by
  simp only [cdF]
  split
  ·have := (isC_in s p.i p.bad ‹_›).2; omega
  ·rfl
 | f + 1, g + 1, p, a, hi, h1, h2 => by
  simp only [cdF]
  split
  ·have hi2 := (isC_in s p.i p.bad ‹_›).2
   have hge := nmP_ge s { p with i := p.i + 1 } hi2
   simp only at hge
   exact cdF_more s f g _ _ hge.2 (by omega) (by omega)
  ·rfl

theorem cd_go (s : ByteArray) (p : Pn) (a : ByteArray) (hi : p.i ≤ s.size) (h : isC (ahd s p.i p.bad) = true) :
  cd s p a = cd s (nmP s { p with i := p.i + 1 }) (a ++ ⟨#[ahd s p.i p.bad, nmC s { p with i := p.i + 1 }]⟩) := by
 have hi2 := (isC_in s p.i p.bad h).2
 have hge := nmP_ge s { p with i := p.i + 1 } hi2
 simp only at hge
 unfold cd
 rw [show s.size - p.i = (s.size - (p.i + 1)) + 1 by omega]
 simp only [cdF]
 rw [if_pos h]
 exact cdF_more s _ _ _ _ hge.2 (by omega) (by omega)

theorem cd_stop (s : ByteArray) (p : Pn) (a : ByteArray) (h : isC (ahd s p.i p.bad) = false) : cd s p a = (p, a) := by
 unfold cd
 cases s.size - p.i with
 | zero => rfl
 | succ n => simp [cdF, h]

theorem isC_iff (c : UInt8) : isC c = true ↔ ((c.toNat : Int) == 38) = true ∨ ((c.toNat : Int) == 33) = true := by
 simp only [isC, Bool.or_eq_true, beq_iff_eq, ← UInt8.toNat_inj]
 show (c.toNat = 38 ∨ c.toNat = 33) ↔ _
 omega
theorem isM_iff (c : UInt8) : isM c = true ↔ ((c.toNat : Int) == 126) = true ∨ ((c.toNat : Int) == 42) = true := by
 simp only [isM, Bool.or_eq_true, beq_iff_eq, ← UInt8.toNat_inj]
 show (c.toNat = 126 ∨ c.toNat = 42) ↔ _
 omega

def tr1 (s : ByteArray) (p : Pn) : Pn := { p with i := tkI s 97 122 (p.i + 1) p.bad, bad := tkB s 97 122 (p.i + 1) p.bad }
def trE (s : ByteArray) (p : Pn) : UInt8 := tkC s 97 122 (p.i + 1) p.bad
def tr2 (s : ByteArray) (p : Pn) : Pn := (cd s (tr1 s p) ⟨#[]⟩).1
def trC (s : ByteArray) (p : Pn) : ByteArray := (cd s (tr1 s p) ⟨#[]⟩).2
def tr3 (s : ByteArray) (q : Pn) : Pn := { q with i := tkI s 62 62 q.i q.bad, bad := tkB s 62 62 q.i q.bad }
def tr5 (s : ByteArray) (q : Pn) (t : UInt8) : Pn := if isM (ahd s q.i q.bad) = true then { q with ma := q.ma ++ [⟨t, q.i⟩], i := q.i + 1 } else q
def trM (s : ByteArray) (q : Pn) : ByteArray := if isM (ahd s q.i q.bad) = true then ⟨#[ahd s q.i q.bad]⟩ else ⟨#[]⟩
def tr6 (s : ByteArray) (q : Pn) : Pn := { q with i := dgI s q.i q.bad }
def trZ (s : ByteArray) (own : Nat) (ev : UInt8) (cds : ByteArray) (q : Pn) : Pn :=
 {tr6 s (tr5 s (nmP s (tr3 s q)) (nmC s (tr3 s q))) with
  tr := (tr5 s (nmP s (tr3 s q)) (nmC s (tr3 s q))).tr ++ [⟨own, ev, cds, nmC s (tr3 s q), trM s (nmP s (tr3 s q)), dgS s (tr5 s (nmP s (tr3 s q)) (nmC s (tr3 s q))).i (tr5 s (nmP s (tr3 s q)) (nmC s (tr3 s q))).bad⟩] }
def trP (s : ByteArray) (own : Nat) (p : Pn) : Pn := trZ s own (trE s p) (trC s p) (tr2 s p)

end Go.Proofs.YtmolmbeeoecnfaaGreatDoor
