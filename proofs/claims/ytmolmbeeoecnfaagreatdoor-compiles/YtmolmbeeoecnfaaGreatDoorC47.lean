/- Own work: CmP, CmQ, PgY, CmN. -/
import Derived.Test.YtmolmbeeoecnfaaGreatDoorC45
import Derived.Test.YtmolmbeeoecnfaaGreatDoorC46
import Derived.Test.YtmolmbeeoecnfaaGreatDoorC44
/- Own work: plain: the document's compiler: what holds of every status that it meets; a status by its text. -/
namespace Go.Proofs.YtmolmbeeoecnfaaGreatDoor
open Go.RowKit Go.BigFrame
set_option linter.unusedVariables false
set_option linter.unusedSimpArgs false

structure XI (st : List StP) (x : Sx) : Prop where
 i : PyI st ⟨x.1, x.2, []⟩
 b : Bnd st.length ⟨x.1, x.2, []⟩
theorem XI.of {st : List StP} {p : Py} (h : PyI st p) (hb : Bnd st.length p) : XI st (sxP p) := ⟨⟨h.l, h.g, h.h, h.m⟩, ⟨hb.ac, hb.ml, hb.me⟩⟩
theorem XI.ml {st : List StP} {x : Sx} (h : XI st x) : x.2.length = 26 := h.b.ml
theorem XI.out {st : List StP} {x : Sx} (h : XI st x) (o : List UInt8) : PyI st ⟨x.1, x.2, o⟩ := ⟨h.i.l, h.i.g, h.i.h, h.i.m⟩
theorem XI.step {st : List StP} {th : List TrH} (ht : Tr st) (hr : RmOk st) (ev : UInt8) {x : Sx} (h : XI st x) : XI st (sxP (spS st th ev x)) := by
 have hf := foI_tkn th ht h.i h.ml ev
 exact XI.of (fold_pyI ht _ _ h.i hf.s hf.w) (fold_bnd ht hr th _ _ h.b)
theorem XI.beg {st : List StP} (ht : Tr st) (hr : RmOk st) : XI st (sxP (begP st)) :=
 XI.of (plK_pyI [] ht ⟨#[]⟩ 0) (plK_bnd ht hr [] ⟨#[]⟩ 0)
def txS (st : List StP) (x : Sx) : ByteArray := ⟨(stT st x.1 x.2 st.length).toArray⟩
theorem txS_inj {st : List StP} (hn : NmI st) {x y : Sx} (hx : XI st x) (hy : XI st y) (h : (txS st x).toList = (txS st y).toList) : x = y := by
 have h2 : stT st x.1 x.2 st.length = stT st y.1 y.2 st.length := by
  rw [ByteArray.toList_eq, ByteArray.toList_eq] at h
  simpa [txS] using h
 exact stT_inj hn hx.b hy.b h2
def nuD (l : List Sx) (x : Sx) : Int := if nuS l x < l.length then (nuS l x : Int) else -1

theorem Gm.frS {w w' : World} {M : GM} {on : List Bool} {me : List ByteArray} {o : ByteArray} {S : Nat → Prop} (h : Gm w M on me o) (f : Fr S w w') (h3 : ¬ S M.c.g3) (h4 : ∀ k, (Value.slice M.c.a4 M.c.trs.length M.c.c4).ownBlock = some k → ¬ S k) (hg : ∀ k, OwnG M k → ¬ S k) : Gm w' M on me o :=
 ⟨h.ct.fr f h3 h4, Blk.fr h.blk f (hg _ (Or.inl rfl)), Blk.fr h.bo f (hg _ (Or.inr (Or.inl rfl))), Blk.fr h.bm f (hg _ (Or.inr (Or.inr rfl))), h.lo, h.lm, h.d1, h.d2, h.d3, h.n3, h.n4⟩
theorem Gm.lt {w : World} {M : GM} {on : List Bool} {me : List ByteArray} {o : ByteArray} (h : Gm w M on me o) {k : Nat} (hk : OwnG M k) : k < w.heap.size := by
 rcases hk with rfl | rfl | rfl
 ·exact Blk.lt h.blk
 ·exact Blk.lt h.bo
 ·exact Blk.lt h.bm
def gmP (M : GM) : Value := .pointer (some ⟨M.gb, 0, none⟩)
structure CdV (w : World) (B : Nat) (G : GC) (st : List StP) (vL vC : Value) (Ms : List GM) (l : List Sx) (rows : List ByteArray) : Prop where
 rL : w.ownsRow 0 52 1 vL Ms.length (Ms.map gmP)
 rC : w.ownsRow 0 9 1 vC rows.length (rows.map Value.string)
 ga : ∀ (i : Nat) (M : GM) (x : Sx), Ms[i]? = some M → l[i]? = some x → M.c = G ∧ ∃ o, GmP w M st ⟨x.1, x.2, o⟩
 ln : Ms.length = l.length
 xi : ∀ x ∈ l, XI st x
 dL : ∀ k, vL.ownBlock = some k → B ≤ k ∧ ∀ M ∈ Ms, ¬ OwnG M k
 dC : ∀ k, vC.ownBlock = some k → B ≤ k ∧ ∀ M ∈ Ms, ¬ OwnG M k
 dd : ∀ k, vL.ownBlock = some k → vC.ownBlock ≠ some k
 g3 : G.g3 < B
 g4 : ∀ k, (Value.slice G.a4 G.trs.length G.c4).ownBlock = some k → k < B
section
variable {w w' : World} {B : Nat} {G : GC} {st : List StP} {vL vC : Value} {Ms : List GM} {l : List Sx} {rows : List ByteArray}
theorem CdV.fr0 (h : CdV w B G st vL vC Ms l rows) (f : Fr (fun _ => False) w w') : CdV w' B G st vL vC Ms l rows :=
 ⟨row_fr h.rL f (fun _ _ h => h), row_fr h.rC f (fun _ _ h => h), fun i M x hM hx => by obtain ⟨h1, o, h2⟩ := h.ga i M x hM hx; exact ⟨h1, o, h2.fr0 f⟩, h.ln, h.xi, h.dL, h.dC, h.dd, h.g3, h.g4⟩
theorem CdV.pushC {g cap : Nat} (h : CdV w B G st vL vC Ms l rows) (R : ByteArray) (hB : B ≤ w.heap.size)
  (hr : w'.ownsRow 0 9 1 (.slice (some ⟨g, 0, none⟩) (rows.length + 1) cap) (rows.length + 1) (rows.map Value.string ++ [.string R]))
  (hg : w.grownBy w' vC.ownBlock) (hgo : vC.ownBlock = some g ∨ w.heap.size ≤ g) :
  CdV w' B G st vL (.slice (some ⟨g, 0, none⟩) (rows.length + 1) cap) Ms l (rows ++ [R]) ∧ Fr (fun k => B ≤ k) w w' := by
 have f : Fr (fun j => vC.ownBlock = some j) w w' := Fr.grown _ hg (fun _ e => e)
 refine ⟨⟨row_fr h.rL f (fun k hk e => h.dd k hk e), by simpa using hr, fun i M x hM hx => ?_, h.ln, h.xi, h.dL, fun k hk => ?_, fun k hk e => ?_, h.g3, h.g4⟩, f.mono (fun k _ e => (h.dC k e).1)⟩
 ·obtain ⟨h1, o, h2⟩ := h.ga i M x hM hx
  refine ⟨h1, o, h2.1.frS f (fun e => ?_) (fun k hk e => ?_) (fun k hk e => (h.dC k e).2 M (List.mem_of_getElem? hM) hk), h2.2⟩
  ·have h3 := (h.dC _ e).1
   rw [h1] at h3
   have := h.g3
   omega
  ·have h3 := (h.dC _ e).1
   rw [h1] at hk
   have := h.g4 k hk
   omega
 ·simp only [Value.ownBlock, Option.some.injEq] at hk
  subst hk
  rcases hgo with e | e
  ·exact h.dC _ e
  ·refine ⟨by omega, fun M hM ho => ?_⟩
   obtain ⟨i, hi⟩ := List.mem_iff_getElem?.1 hM
   have hl : i < l.length := by rw [← h.ln]; exact (List.getElem?_eq_some_iff.1 hi).1
   obtain ⟨-, o, h2⟩ := h.ga i M _ hi (List.getElem?_eq_getElem hl)
   have := h2.1.lt ho
   omega
 ·simp only [Value.ownBlock, Option.some.injEq] at e
  subst e
  rcases hgo with e | e
  ·exact h.dd _ hk e
  ·have := (h.rL.lt _ hk).2
   omega
theorem CdV.pushL {g cap : Nat} (h : CdV w B G st vL vC Ms l rows) (M : GM) (x : Sx) (o : List UInt8) (hM : M.c = G) (hx : XI st x) (hp : GmP w M st ⟨x.1, x.2, o⟩) (hB : B ≤ w.heap.size)
    (hoL : ∀ k, vL.ownBlock = some k → ¬ OwnG M k) (hoC : ∀ k, vC.ownBlock = some k → ¬ OwnG M k)
    (hr : w'.ownsRow 0 52 1 (.slice (some ⟨g, 0, none⟩) (l.length + 1) cap) (l.length + 1) (Ms.map gmP ++ [gmP M]))
    (hg : w.grownBy w' vL.ownBlock) (hgo : vL.ownBlock = some g ∨ w.heap.size ≤ g) :
    CdV w' B G st (.slice (some ⟨g, 0, none⟩) (l.length + 1) cap) vC (Ms ++ [M]) (l ++ [x]) rows ∧ Fr (fun k => B ≤ k) w w' ∧ GmP w' M st ⟨x.1, x.2, o⟩ := by
  have f : Fr (fun j => vL.ownBlock = some j) w w' := Fr.grown _ hg (fun _ e => e)
  have hst : ∀ (N : GM) (y : Sx) (q : List UInt8), N.c = G → (∀ k, vL.ownBlock = some k → ¬ OwnG N k) → GmP w N st ⟨y.1, y.2, q⟩ → GmP w' N st ⟨y.1, y.2, q⟩ := fun N y q h1 hn h2 => by
    refine ⟨h2.1.frS f (fun e => ?_) (fun k hk e => ?_) (fun k hk e => hn k e hk), h2.2⟩
    · have h3 := (h.dL _ e).1
      rw [h1] at h3
      have := h.g3
      omega
    · have h3 := (h.dL _ e).1
      rw [h1] at hk
      have := h.g4 k hk
      omega
  have hlt : ∀ N ∈ Ms, ∀ k, OwnG N k → k < w.heap.size := fun N hN k hk => by
    obtain ⟨i, hi⟩ := List.mem_iff_getElem?.1 hN
    have hl : i < l.length := by rw [← h.ln]; exact (List.getElem?_eq_some_iff.1 hi).1
    obtain ⟨-, o, h2⟩ := h.ga i N _ hi (List.getElem?_eq_getElem hl)
    exact h2.1.lt hk
  refine ⟨⟨?_, row_fr h.rC f (fun k hk e => h.dd k e hk), fun i N y hN hy => ?_, ?_, ?_, fun k hk => ?_, fun k hk => ?_, fun k hk e => ?_, h.g3, h.g4⟩, f.mono (fun k _ e => (h.dL k e).1), hst M x o hM hoL hp⟩
  · have e : (Ms ++ [M]).length = l.length + 1 := by rw [List.length_append, h.ln]; rfl
    rw [e, List.map_append]
    exact hr
  · by_cases hi : i < l.length
    · rw [List.getElem?_append_left (by rw [h.ln]; exact hi)] at hN
      rw [List.getElem?_append_left hi] at hy
      obtain ⟨h1, q, h2⟩ := h.ga i N y hN hy
      exact ⟨h1, q, hst N y q h1 (fun k hk => (h.dL k hk).2 N (List.mem_of_getElem? hN)) h2⟩
    · have hi2 : i = l.length := by
        have := (List.getElem?_eq_some_iff.1 hy).1
        simp at this
        omega
      rw [List.getElem?_append_right (by omega), hi2] at hy
      rw [List.getElem?_append_right (by rw [h.ln]; omega), hi2, h.ln] at hN
      simp at hN hy
      subst hN
      subst hy
      exact ⟨hM, o, hst M x o hM hoL hp⟩
  · rw [List.length_append, List.length_append, h.ln]; rfl
  · intro y hy
    rcases List.mem_append.1 hy with hy | hy
    · exact h.xi y hy
    · simp only [List.mem_cons, List.not_mem_nil, or_false] at hy
      rw [hy]; exact hx
  · simp only [Value.ownBlock, Option.some.injEq] at hk
    subst hk
    rcases hgo with e | e
    · refine ⟨(h.dL _ e).1, fun N hN ho => ?_⟩
      rcases List.mem_append.1 hN with hN | hN
      · exact (h.dL _ e).2 N hN ho
      · simp only [List.mem_cons, List.not_mem_nil, or_false] at hN
        subst hN
        exact hoL _ e ho
    · refine ⟨by omega, fun N hN ho => ?_⟩
      rcases List.mem_append.1 hN with hN | hN
      · have := hlt N hN _ ho
        omega
      · simp only [List.mem_cons, List.not_mem_nil, or_false] at hN
        subst hN
        have := hp.1.lt ho
        omega
  · refine ⟨(h.dC k hk).1, fun N hN ho => ?_⟩
    rcases List.mem_append.1 hN with hN | hN
    · exact (h.dC k hk).2 N hN ho
    · simp only [List.mem_cons, List.not_mem_nil, or_false] at hN
      subst hN
      exact hoC k hk ho
  · simp only [Value.ownBlock, Option.some.injEq] at hk
    subst hk
    rcases hgo with e2 | e2
    · exact h.dd _ e2 e
    · have := (h.rC.lt _ e).2
      omega
end

theorem emp_iff' (l : List Bool) : emp l = true ↔ ∀ i, i < 26 → mem l i = false := by
 unfold emp
 simp
theorem memT_emp {st : List StP} {mm : List (List Bool)} (ht : Tr st) (hr : ∀ (k : Nat) (x : StP), st[k]? = some x → x.rem = true → x.kind = 1) (hM : MemI st mm) {k : Nat} (hk : k < st.length) : (emp (memAt mm k) = true → nmT st (memAt mm k) = ⟨#[]⟩) ∧ (emp (memAt mm k) = false → nmT st (memAt mm k) ≠ ⟨#[]⟩) := by
 have hl := ht.wf.len
 refine ⟨fun h => nmT_0 (fun i hi => (emp_iff' _).1 h i (by omega)), fun h => ?_⟩
 obtain ⟨c, c1, c2⟩ := memI_ch ht hr hM hk h
 exact nmT_ne c1.1 c2
theorem ret_strT {l m : List UInt8} (h : l = m) : Ending.returned (Value.string ⟨l.toArray⟩) = .returned (.string ⟨m.toArray⟩) := by rw [h]
theorem ret_bs2 {l m r : List UInt8} {c : UInt8} (h : l = (m ++ [47, c]) ++ r) : Value.string ((((⟨m.toArray⟩ : ByteArray) ++ ⟨#[47]⟩) ++ ⟨#[c]⟩) ++ ⟨r.toArray⟩) = .string ⟨l.toArray⟩ := by
 congr 1
 apply ByteArray.ext
 rw [ByteArray.data_append, ByteArray.data_append, ByteArray.data_append]
 apply Array.toList_inj.1
 rw [h]; simp

set_option maxRecDepth 100000 in
set_option maxHeartbeats 2000000 in
theorem dtext_any (w : World) (M : GM) (st : List StP) (p : Py) (hD : PlD M st) (hp : GmP w M st p) (hM : MemI st p.mm) :
  Calls Tryz.prog 19 #[.pointer (some ⟨M.gb, 0, none⟩)] w fun e w' => e = .returned (.string ⟨(stT st p.act p.mm st.length).toArray⟩) ∧ Fr (fun _ => False) w w' := by
 have HD : Hid _ := hD
 have HM : Hid _ := hM
 have HL : Hid (M.c.sts.length = st.length) := hD.k.len
 have hl3 := hp.1.ct.l3
 have HP : Hid (GmP w M st p) := hp
 clear hD hM hp
 go_enter Tryz.func19, Tryz.ntmps19
 go_wp2_with fail
 go_loopw [3, 4] (fun vm vk wr => ∃ k : Nat, k ≤ M.c.sts.length ∧ vk = .int .i64 k ∧ vm = .string ⟨(nmK st p.act k).toArray⟩ ∧ Fr (fun _ => False) w wr) (fun _ vk _ => M.c.sts.length - (intOf vk).toNat)
 case atStart => exact ⟨0, Nat.zero_le _, by go_num, rfl, by (repeat (first | exact Fr.refl _ _ | assumption | refine Fr.drewNr ?_ _ | refine Fr.drewr ?_ | refine Fr.allocr ?_ _ | refine Fr.setCellr ?_ _ _ (by first | exact Or.inl rfl | (right; simp; done) | (right; simp; omega))))⟩
 case round =>
  obtain ⟨k, hk, rfl, rfl, hfr⟩ := hrel
  have hgr := (HP.out.fr0 hfr).1
  have c4 := hgr.c4
  obtain ⟨c0, c1⟩ := hgr.cp
  have hsz := nmK_len st p.act k
  have hsz2 : (⟨(nmK st p.act k).toArray⟩ : ByteArray).size = (nmK st p.act k).length := by show (nmK st p.act k).toArray.size = _; simp
  by_cases hlt : (k : Int) < M.c.sts.length
  ·have hlt' : k < M.c.sts.length := by omega
   have fk := hgr.on' hlt'
   rw [onOf_mem _ _ _ hlt'] at fk
   obtain ⟨y, hy⟩ : ∃ y, M.c.sts[k]? = some y := ⟨_, List.getElem?_eq_getElem hlt'⟩
   obtain ⟨y0, -, -, -, -, -, -, -⟩ := st8 hgr.ct.r3 hy
   have HNM : Hid (y.name = nameAt st k) := (HD.out.k.en k y hy).2.2
   clear hy
   cases ha : mem p.act k with
   | false =>
    rw [ha] at fk
    have HB : Hid (nmK st p.act (k + 1) = nmK st p.act k) := by show _ = _; rw [nmK, if_neg (by rw [ha]; simp)]
    clear ha
    generalize nmK st p.act k = E at *
    go_wp2_with fail
    go_roundw
    case rel => exact ⟨k + 1, by omega, by go_num, by rw [HB.out], hfr⟩
    case measure => simp [intOf]; omega
   | true =>
    rw [ha] at fk
    have HB : Hid (nmK st p.act (k + 1) = nmK st p.act k ++ [y.name]) := by show _ = _; rw [nmK, if_pos ha, ← HNM.out]
    clear ha
    generalize nmK st p.act k = E at *
    go_wp2_with fail
    go_roundw
    case rel => exact ⟨k + 1, by omega, by go_num, ret_bs HB.out, hfr.allocr _⟩
    case measure => simp [intOf]; omega
  ·have hkl : k = M.c.sts.length := by omega
   have HS0 : Hid (nmK st p.act k = stT st p.act p.mm 0) := by show _ = _; rw [hkl, HL.out, stT]
   rw [HS0.out] at hsz2 hsz ⊢
   clear hkl
   go_wp2_with fail
   clear c0 c1 c4 hgr hsz hsz2
   go_loopw [3, 5] (fun vm vk wq => ∃ j : Nat, j ≤ M.c.sts.length ∧ vk = .int .i64 j ∧ vm = .string ⟨(stT st p.act p.mm j).toArray⟩ ∧ Fr (fun _ => False) w wq) (fun _ vk _ => M.c.sts.length - (intOf vk).toNat)
   case atStart => exact ⟨0, Nat.zero_le _, by go_num, rfl, hfr⟩
   case round =>
    obtain ⟨j, hj, rfl, rfl, hfq⟩ := hrel
    have hgr := (HP.out.fr0 hfq).1
    have c4 := hgr.c4
    have c5 := hgr.c5
    obtain ⟨c0, c1⟩ := hgr.cp
    have hsz := stT_len st p.act p.mm (by rw [← HL.out]; exact hl3) j
    have hsz2 : (⟨(stT st p.act p.mm j).toArray⟩ : ByteArray).size = (stT st p.act p.mm j).length := by show (stT st p.act p.mm j).toArray.size = _; simp
    by_cases hlt : (j : Int) < M.c.sts.length
    ·have hlt' : j < M.c.sts.length := by omega
     have hjs : j < st.length := by rw [← HL.out]; exact hlt'
     obtain ⟨y, hy⟩ : ∃ y, M.c.sts[j]? = some y := ⟨_, List.getElem?_eq_getElem hlt'⟩
     obtain ⟨y0, -, -, -, -, -, -, -⟩ := st8 hgr.ct.r3 hy
     have HNM : Hid (y.name = nameAt st j) := (HD.out.k.en j y hy).2.2
     obtain ⟨m1, m2⟩ := memT_emp HD.out.t HD.out.r HM.out hjs
     have mc : wr.cell? ⟨M.mb, j, none⟩ = some (.string (nmT st (memAt p.mm j))) := by
      exact hgr.me' (meOf_at st _ hjs)
     clear hy
     cases he : emp (memAt p.mm j) with
     | true =>
      rw [m1 he] at mc
      have HB : Hid (stT st p.act p.mm (j + 1) = stT st p.act p.mm j) := by show _ = _; rw [stT, if_pos he]
      clear he m1 m2
      generalize stT st p.act p.mm j = E at *
      go_wp2_with fail
      go_roundw
      case rel => exact ⟨j + 1, by omega, by go_num, by rw [HB.out], hfq⟩
      case measure => simp [intOf]; omega
     | false =>
      have hne := m2 he
      have hms := nmT_sz st (memAt p.mm j)
      have hmbl := Blk.lt hgr.bm
      have hgbl := Blk.lt hgr.blk
      have hst26 : st.length ≤ 26 := by rw [← HL.out]; exact hl3
      have HB : Hid (stT st p.act p.mm (j + 1) = (stT st p.act p.mm j ++ [47, y.name]) ++ nmK st (memAt p.mm j) st.length) := by show _ = _; rw [stT, if_neg (by rw [he]; simp), ← HNM.out]
      have HRT : Hid (nmT st (memAt p.mm j) = ⟨(nmK st (memAt p.mm j) st.length).toArray⟩) := rfl
      have hnel : (nmT st (memAt p.mm j)).toList.isEmpty = false := by
       rw [List.isEmpty_eq_false_iff]
       intro h
       apply hne
       apply ByteArray.ext
       apply Array.toList_inj.1
       have h1 : (nmT st (memAt p.mm j)).toList = (nmT st (memAt p.mm j)).data.toList := ByteArray.toList_eq _
       rw [← h1, h]
      clear he m1 m2
      have HV : Hid (∀ E : List UInt8, E = stT st p.act p.mm j → Value.string ((((⟨E.toArray⟩ : ByteArray) ++ ⟨#[47]⟩) ++ ⟨#[y.name]⟩) ++ nmT st (memAt p.mm j)) = .string ⟨(stT st p.act p.mm (j + 1)).toArray⟩) := fun E hE => by
       rw [HRT.out]; exact ret_bs2 (by rw [HB.out, hE])
      have HV1 : Hid _ := HV.out _ rfl
      clear HV HB HRT
      generalize nmT st (memAt p.mm j) = R at *
      generalize stT st p.act p.mm j = E at *
      have hcv0 : ((wr.alloc (.cells #[.int .u8 y.name.toNat] 5)).drew).cell? ⟨wr.heap.size, 0, none⟩ = some (.int .u8 y.name.toNat) := by rw [Blk.cell (Blk.drew (Blk.new wr #[.int .u8 y.name.toNat] 5))]; rfl
      have hcv : (convert 82 9 (.slice (some ⟨wr.heap.size, 0, none⟩) 1 1)).run Tryz.prog ((wr.alloc (.cells #[.int .u8 y.name.toNat] 5)).drew) = .ok (.string ⟨#[y.name]⟩) ((wr.alloc (.cells #[.int .u8 y.name.toNat] 5)).drew) :=
       run_convert_bytes_back (P := Tryz.prog) _ 82 9 5 ⟨wr.heap.size, 0, none⟩ 1 [y.name] Tryz.underlying82 Tryz.underlying5 Tryz.underlying9 (fun j hj => by
        have : j = 0 := by simp at hj; omega
        subst this
        exact hcv0)
      go_wp2_with fail
      go_region
      all_goals
       go_wp2_with fail
       go_roundw
       case rel => exact ⟨j + 1, by omega, by go_num, HV1.out, hfq.thenr (by (repeat (first | exact Fr.refl _ _ | assumption | refine Fr.drewNr ?_ _ | refine Fr.drewr ?_ | refine Fr.allocr ?_ _ | refine Fr.setCellr ?_ _ _ (by first | exact Or.inl rfl | (right; simp; done) | (right; simp; omega))))) (fun _ _ h => h)⟩
       case measure => simp [intOf]; omega
    ·have hkl2 : j = M.c.sts.length := by omega
     have H3 : Hid (stT st p.act p.mm j = stT st p.act p.mm st.length) := by show _ = _; rw [hkl2, HL.out]
     clear hkl2
     go_wp2_with fail
     go_ret
     exact ⟨ret_strT H3.out, hfq⟩

set_option maxRecDepth 100000 in
set_option maxHeartbeats 1000000 in
theorem dnumber_any (w : World) (st : List StP) (vL : Value) (Ms : List GM) (l : List Sx) (hn : NmI st) (hr : w.ownsRow 0 52 1 vL Ms.length (Ms.map gmP)) (hln : Ms.length = l.length) (hl : l.length ≤ 1000) (hga : ∀ (i : Nat) (M : GM) (y : Sx), Ms[i]? = some M → l[i]? = some y → PlD M st ∧ XI st y ∧ ∃ o, GmP w M st ⟨y.1, y.2, o⟩) (x : Sx) (hx : XI st x) :
    Calls Tryz.prog 20 #[vL, .string (txS st x)] w fun e w' => e = .returned (.int .i64 (nuD l x)) ∧ Fr (fun _ => False) w w' := by
  rw [hln] at hr
  obtain ⟨ra, rc, hv⟩ := row_len hr
  subst hv
  have HR : Hid _ := hr
  have HG : Hid _ := hga
  have HLN : Hid (Ms.length = l.length) := hln
  have HIN : Hid (∀ y, XI st y → (txS st y).toList = (txS st x).toList → y = x) := fun y hy h => txS_inj hn hy hx h
  obtain ⟨T, hT⟩ : ∃ T, txS st x = T := ⟨_, rfl⟩
  rw [hT] at HIN
  have HT : Hid (txS st x = T) := hT
  rw [hT]
  clear hr hga hT hln hn hx
  go_enter Tryz.func20, Tryz.ntmps20
  go_wp2_with fail
  go_loopw [5] (fun vi wr => ∃ k : Nat, k ≤ l.length ∧ vi = .int .i64 k ∧ Hid (∀ j, j < k → eqS l x j = false) ∧ Fr (fun _ => False) w wr) (fun vi _ => l.length - (intOf vi).toNat)
  case atStart => exact ⟨0, Nat.zero_le _, rfl, fun j hj => (by omega), Fr.refl _ _⟩
  case round =>
    obtain ⟨k, hk, rfl, HJ, hfr⟩ := hrel
    by_cases hlt : (k : Int) < l.length
    · have hlt' : k < l.length := by omega
      have hrr := row_fr HR.out hfr (fun _ _ h => h)
      obtain ⟨gg, cc, hv3, hcc⟩ := row_form hrr (by omega)
      injection hv3 with q1 q2 q3
      subst q1
      subst q3
      clear q2
      obtain ⟨y, hy⟩ : ∃ y, l[k]? = some y := ⟨_, List.getElem?_eq_getElem hlt'⟩
      obtain ⟨M, hM⟩ : ∃ M, Ms[k]? = some M := ⟨_, List.getElem?_eq_getElem (by rw [HLN.out]; exact hlt')⟩
      have y0 := (row_cell hrr k (gmP M) (by rw [List.getElem?_map, hM]; rfl)).1
      unfold gmP at y0
      obtain ⟨hD, hY, o, hp⟩ := HG.out k M y hM hy
      have HTX : Hid (∀ w', Fr (fun _ => False) wr w' → Calls Tryz.prog 19 #[.pointer (some ⟨M.gb, 0, none⟩)] w' fun e w'' => e = .returned (.string (txS st y)) ∧ Fr (fun _ => False) w' w'') := fun w' f => dtext_any w' M st ⟨y.1, y.2, o⟩ hD ((hp.fr0 hfr).fr0 f) hY.i.m
      have HE : Hid (eqS l x k = decide (y = x)) := by show _ = _; simp [eqS, hy]
      have HY : Hid (XI st y) := hY
      have HI : Hid (eqS l x k = true → nuD l x = (k : Int)) := fun h => by
        have e1 : nuS l x = k := by unfold nuS; rw [firstB_some (eqS l x) k h HJ.out _ hlt']; rfl
        rw [nuD, e1, if_pos hlt']
      obtain ⟨Y, hYY⟩ : ∃ Y, txS st y = Y := ⟨_, rfl⟩
      rw [hYY] at HTX
      have HYY : Hid (txS st y = Y) := hYY
      clear hrr hy hM hD hY hp hYY
      go_wp2_with fail
      refine Calls.mono (HTX.out _ (Fr.refl _ _)) ?_
      rintro e w1 ⟨rfl, hf1⟩
      have hfr1 := hfr.thenr hf1 (fun _ _ h => h)
      clear y0 HTX hf1 hfr
      cases e : (Y.toList == T.toList) with
      | true =>
        have HI2 : Hid (nuD l x = (k : Int)) := HI.out (by
          rw [HE.out, decide_eq_true_eq]
          exact HIN.out y HY.out (by rw [HYY.out]; exact eq_of_beq e))
        clear HI HE
        go_wp2_with fail
        go_ret
        exact ⟨by rw [HI2.out]; rfl, hfr1⟩
      | false =>
        have HB : Hid (eqS l x k = false) := by
          show _ = _
          rw [HE.out, decide_eq_false_iff_not]
          intro h
          rw [h, HT.out] at HYY
          rw [← HYY.out] at e
          simp at e
        clear HI HE
        go_wp2_with fail
        go_roundw
        case rel => exact ⟨k + 1, by omega, by go_num, below_step HJ.out HB.out, hfr1⟩
        case measure => simp [intOf]; omega
    · have HI : Hid (nuD l x = -1) := by
        show _ = _
        have e1 : nuS l x = l.length := by unfold nuS; rw [firstB_none (eqS l x) l.length (fun j hj => HJ.out j (by omega))]; rfl
        rw [nuD, e1, if_neg (by omega)]
      go_wp2_with fail
      go_ret
      exact ⟨by rw [HI.out]; rfl, hfr⟩
end Go.Proofs.YtmolmbeeoecnfaaGreatDoor
