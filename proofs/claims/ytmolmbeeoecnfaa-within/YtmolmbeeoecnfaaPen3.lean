/- Own work: walks of the document's reader: name, trans. -/
import Derived.Test.YtmolmbeeoecnfaaData
namespace Go.Proofs.Ytmolmbeeoecnfaa
open Go.RowKit Go.BigFrame
set_option linter.unusedVariables false
set_option linter.unusedSimpArgs false

theorem elemRef : ElemOk Try.prog 37 139 2 16 where
  ht := Try.underlying37
  info := by
    obtain ⟨i, h0, h1, h2, h3⟩ := info_parts (show (Try.prog.info? 139).map (fun i => (i.zero, i.size, i.bytes)) = some (some (.agg #[.int .u8 0, .int .i64 0]), 2, 16) by kernel_rfl)
    exact ⟨i, _, h0, h1, h2, h3, rfl⟩
  pos := by decide
theorem elemTrans : ElemOk Try.prog 36 51 6 72 where
  ht := Try.underlying36
  info := by
    obtain ⟨i, h0, h1, h2, h3⟩ := info_parts (show (Try.prog.info? 51).map (fun i => (i.zero, i.size, i.bytes)) = some (some (.agg #[.int .i64 0, .int .u8 0, .string ⟨#[]⟩, .int .u8 0, .string ⟨#[]⟩, .string ⟨#[]⟩]), 6, 72) by kernel_rfl)
    exact ⟨i, _, h0, h1, h2, h3, rfl⟩
  pos := by decide
theorem elemState : ElemOk Try.prog 35 47 8 80 where
  ht := Try.underlying35
  info := by
    obtain ⟨i, h0, h1, h2, h3⟩ := info_parts (show (Try.prog.info? 47).map (fun i => (i.zero, i.size, i.bytes)) = some (some (.agg #[.int .u8 0, .int .i64 0, .int .i64 0, .int .i64 0, .int .i64 0, .int .i64 0, .string ⟨#[]⟩, .string ⟨#[]⟩]), 8, 80) by kernel_rfl)
    exact ⟨i, _, h0, h1, h2, h3, rfl⟩
  pos := by decide

def nmC (s : ByteArray) (p : Pn) : UInt8 := tkC s 65 90 p.i p.bad
def nmP (s : ByteArray) (p : Pn) : Pn := { p with i := tkI s 65 90 p.i p.bad, bad := tkB s 65 90 p.i p.bad, re := if tkB s 65 90 p.i p.bad < 0 then p.re ++ [⟨nmC s p, p.i⟩] else p.re }

set_option maxRecDepth 100000 in
set_option maxHeartbeats 400000 in
theorem name_any (w : World) (b : Nat) (s : ByteArray) (p : Pn) (vs : Vs) (hp : PenV w b s p vs) (hs : s.size ≤ 1000000) (hn : p.i ≤ s.size) (hr : p.re.length ≤ 1000000) :
    Calls Try.prog 87 #[.pointer (some ⟨b, 0, none⟩)] w fun e w' => e = .returned (.int .u8 (nmC s p).toNat) ∧ ∃ vs', PenV w' b s (nmP s p) vs' ∧ Ev b vs vs' w w' := by
  obtain ⟨c0, c1, c2, -, -, -, -, hfz⟩ := hp.blk.cells
  clear hfz
  go_enter Try.func87, Try.ntmps87
  go_wp2_with fail
  refine (take_at _ b s 65 90 65 90 rfl rfl p.i p.bad vs.v3 vs.v4 vs.v5 vs.v6 hp.blk (by omega)).mono ?_
  rintro e w1 ⟨rfl, hp1, hf1⟩
  have hpv := hp.move hp1 hf1
  obtain ⟨d0, d1, d2, d3, d4, d5, d6, hfz⟩ := hp1.cells
  have hz5 := hfz 5
  have hb1 := Blk.lt hp1
  clear hfz c0 c1 c2
  by_cases hb : tkB s 65 90 p.i p.bad < 0
  · have HP : Hid (nmP s p = { p with i := tkI s 65 90 p.i p.bad, bad := tkB s 65 90 p.i p.bad, re := p.re ++ [⟨nmC s p, p.i⟩] }) := by show _ = _; rw [nmP, if_pos hb]
    go_wp2_with (at_builtin; go_must (refine wpList_append1 rfl _ _ _ rfl _ 2 16 elemRef _ p.re.length (p.re.flatMap RfR.cells) rfl ((hpv.alloc _).r5) ⟨w1.heap.size, 0, none⟩ 1 (RfR.cells ⟨nmC s p, p.i⟩) rfl rfl (by exact cell_two_new _ _ _ _) (by intro u hu; simp [RfR.cells] at hu; rcases hu with rfl | rfl <;> rfl) (by unfold maxLen; omega) (by omega) ?_); intro g cap w2 hrow hgrow hgo; obtain ⟨k5, kz5⟩ := (hpv.alloc _).after5 hgrow)
    go_ret
    obtain ⟨q1, q2⟩ := (hpv.alloc _).push5 ⟨nmC s p, p.i⟩ hrow hgrow hgo
    refine ⟨rfl, _, by rw [HP.out]; exact q1, ?_⟩
    exact (Ev.alloc (Ev.of_fr hf1) _).trans q2
  · have HP : Hid (nmP s p = { p with i := tkI s 65 90 p.i p.bad, bad := tkB s 65 90 p.i p.bad, re := p.re }) := by show _ = _; rw [nmP, if_neg hb]
    go_wp2_with fail
    go_ret
    exact ⟨rfl, vs, by rw [HP.out]; exact hpv, Ev.of_fr hf1⟩
end Go.Proofs.Ytmolmbeeoecnfaa
