/- Own work: walks of the player: leave. -/
import Derived.Test.YtmolmbeeoecnfaaPyC
namespace Go.Proofs.Ytmolmbeeoecnfaa
open Go.RowKit Go.BigFrame
set_option linter.unusedVariables false
set_option linter.unusedSimpArgs false

def enterAt (st : List StP) (k : Nat) : ByteArray := match st[k]? with | some x => x.enter | none => ⟨#[]⟩
def leaveAt (st : List StP) (k : Nat) : ByteArray := match st[k]? with | some x => x.leave | none => ⟨#[]⟩
theorem enterAt_at {st : List StP} {k : Nat} {x : StP} (h : st[k]? = some x) : enterAt st k = x.enter := by simp [enterAt, h]
theorem leaveAt_at {st : List StP} {k : Nat} {x : StP} (h : st[k]? = some x) : leaveAt st k = x.leave := by simp [leaveAt, h]
/-- Actions are short. -/
def SzOk (st : List StP) : Prop := ∀ x ∈ st, x.enter.size ≤ 160 ∧ x.leave.size ≤ 160

/-- The states below k that are left, the last one first. -/
def lvF (st : List StP) (left : List Bool) : Nat → Py → Py
  | 0, p => p
  | k + 1, p => lvF st left k (if mem left k = true then { p with act := p.act.set k false, out := p.out ++ bls (leaveAt st k) } else p)

theorem pyC_setAct (ws : Ws) (p : Py) (vo : Value) (k : Nat) (v : Bool) (o : List UInt8) (ho : PyOk p) (hk : k < 26) : (pyC ws p vo).toArray.setIfInBounds (2 + k) (.bool v) = (pyC ws { p with act := p.act.set k v, out := o } vo).toArray := by
  apply Array.toList_inj.1
  rw [Array.toList_setIfInBounds]
  simp only [List.toList_toArray, pyC]
  rw [List.set_append_right _ _ (by simp), List.set_append_left _ _ (by simp [bV_len, ho.la]; omega)]
  simp [bV, List.map_set]
theorem PyV.setAct {w : World} {b : Nat} {st : List StP} {ws : Ws} {p : Py} {vo : Value} (h : PyV w b st ws p vo) (k : Nat) (v : Bool) (hk : k < 26) :
    PyV (w.setCell ⟨b, 2 + k, none⟩ (.bool v)) b st ws { p with act := p.act.set k v } vo where
  blk := by
    rw [show (pyC ws { p with act := p.act.set k v } vo).toArray = (pyC ws p vo).toArray.setIfInBounds (2 + k) (.bool v) from (pyC_setAct ws p vo k v p.out h.ok hk).symm]
    exact Blk.set h.blk (2 + k) _
  pl := h.pl.fr (Fr.setCell (· = b) _ ⟨b, 2 + k, none⟩ _ rfl) (fun k hk e => by have := h.np k hk; omega)
  ro := row_frB h.ro (Fr.setCell (· = b) _ ⟨b, 2 + k, none⟩ _ rfl) (fun k hk e => by have := (h.roB k hk).1; omega)
  np := h.np
  ok := ⟨by simp [h.ok.la], h.ok.lm, h.ok.le⟩

set_option maxRecDepth 100000 in
set_option maxHeartbeats 1000000 in
theorem leave_any (w : World) (b : Nat) (st : List StP) (ws : Ws) (p : Py) (vo : Value) (left : List Bool) (hwf : Wf st) (hsz : SzOk st) (hp : PyV w b st ws p vo) (hl : left.length = 26) (hb : p.out.length ≤ 70000000000000) (hs0 : 0 < st.length) :
    Calls Try.prog 79 #[.pointer (some ⟨b, 0, none⟩), setV left] w fun e w' => e = .returned (.tuple #[]) ∧ (lvF st left st.length p).out.length ≤ p.out.length + 4160 ∧ ∃ vo', PyV w' b st ws (lvF st left st.length p) vo' ∧ EvY b vo vo' w w' := by
  unfold setV
  obtain ⟨gg, cc, hv3, hcc, hgl⟩ := row_gg hp.pl hs0
  have hlen := hwf.len
  have hbl := Blk.lt hp.blk
  have hB0 := Blk.new w (bV left).toArray 73
  have hp0 := hp.fr0 (Fr.alloc (fun _ => False) w (.cells (bV left).toArray 73))
  have he0 := (EvY.refl b vo w).alloc (.cells (bV left).toArray 73)
  have HNY : Hid (¬ OwnY b vo w.heap.size) := by
    rintro (h | h)
    · omega
    · have := (hp.roB _ h).2; omega
  have c0 := hp.c0
  rw [hv3] at c0
  have HV : Hid (ws.v2 = .slice (some ⟨gg, 0, none⟩) st.length cc) := hv3
  have HL : Hid (left.length = 26) := hl
  have HSZ : Hid (SzOk st) := hsz
  clear hp hv3 hl hsz
  go_enter Try.func79, Try.ntmps79
  go_wp2_with fail
  have HP0 : Hid (PyV _ b st ws p vo) := hp0
  have HE0 : Hid (EvY b vo vo w _) := he0
  have HB0 : Hid (Blk _ w.heap.size (bV left).toArray 73) := hB0
  clear c0 hp0 he0 hB0
  go_loopg [4] st.length (fun g vs wr => ∃ (k : Nat) (q : Py) (vq : Value), k ≤ st.length ∧ vs = .int .i64 ((k : Int) - 1) ∧ PyV wr b st ws q vq ∧ EvY b vo vq w wr ∧ Blk wr w.heap.size (bV left).toArray 73 ∧ ¬ OwnY b vq w.heap.size ∧ Hid (lvF st left st.length p = lvF st left k q) ∧ q.out.length ≤ p.out.length + (st.length - k) * 160 ∧ k ≤ g)
  case atStart => exact ⟨st.length, p, vo, Nat.le_refl _, rfl, HP0.out, HE0.out, HB0.out, HNY.out, rfl, by omega, Nat.le_refl _⟩
  case round =>
    obtain ⟨k, q, vq, hk, rfl, hpq, heq, hBq, hnq, HF, hq, hg⟩ := hrel
    have hmul : (st.length - k) * 160 ≤ 26 * 160 := Nat.mul_le_mul_right _ (by omega)
    cases k with
    | zero =>
      have HR : Hid (lvF st left st.length p = q) := HF.out
      have hd : decide ((0 : Int) ≤ ((0 : Nat) : Int) - 1) = false := by decide
      clear HF
      go_wp2_with fail
      go_end0
      rw [HR.out]
      exact ⟨rfl, by omega, vq, hpq, heq⟩
    | succ k =>
      have hge : (0 : Int) ≤ ((k + 1 : Nat) : Int) - 1 := by omega
      have hkk : ((k + 1 : Nat) : Int) - 1 = (k : Int) := by omega
      rw [hkk] at hge ⊢
      have cl := mem_cell (k := k) hBq (by rw [HL.out]; omega)
      have hk26 : (k : Int) < 26 := by omega
      cases hm : mem left k with
      | false =>
        have HF2 : Hid (lvF st left st.length p = lvF st left k q) := by show _ = _; rw [HF.out, lvF, if_neg (by simp [hm])]
        rw [hm] at cl
        clear HF hkk
        go_wp2_with fail
        go_roundg k
        case measure => omega
        case rel => exact ⟨k, q, vq, by omega, rfl, hpq, heq, hBq, hnq, HF2, by omega, Nat.le_refl _⟩
      | true =>
        obtain ⟨x, hx⟩ : ∃ x, st[k]? = some x := ⟨_, List.getElem?_eq_getElem (by omega)⟩
        have HF2 : Hid (lvF st left st.length p = lvF st left k { q with act := q.act.set k false, out := q.out ++ bls x.leave }) := by show _ = _; rw [HF.out, lvF, if_pos hm, leaveAt_at hx]
        have hxs := (HSZ.out x (List.mem_of_getElem? hx)).2
        have hr := hpq.pl.r2
        rw [HV.out] at hr
        have x7 := (row_cell hr (k * 10 + 7) _ (by rw [flat_get StP.cells 10 StP.len st k 7 x hx (by omega)]; rfl)).1
        have c0 := hpq.c0
        rw [HV.out] at c0
        have hkl : (k : Int) < st.length := by omega
        rw [hm] at cl
        clear HF hkk hr hx
        go_wp2_with fail
        refine (put_any wr b st ws q vq x.leave hpq (by omega)).mono ?_
        rintro e w2 ⟨rfl, vo2, hp2, he2⟩
        obtain ⟨hB2, hnq2⟩ := he2.keeps hBq hnq
        have ca := hp2.ca k (by omega)
        have cz := hp2.fz (2 + k)
        go_wp2_with fail
        go_roundg k
        case measure => omega
        case rel => exact ⟨k, _, vo2, by omega, rfl, hp2.setAct k false (by omega), (heq.trans he2).setOwn _ _, Blk.other hB2 _ _ (by show w.heap.size ≠ b; omega), hnq2, HF2, by simp [bls_len]; omega, Nat.le_refl _⟩
end Go.Proofs.Ytmolmbeeoecnfaa
