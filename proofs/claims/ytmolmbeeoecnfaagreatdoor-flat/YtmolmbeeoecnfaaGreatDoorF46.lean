/- Own work: PgJ, PgQ, PgK. -/
import Derived.Test.YtmolmbeeoecnfaaGreatDoorF45
import Derived.Test.YtmolmbeeoecnfaaGreatDoorF44
import Derived.Test.YtmolmbeeoecnfaaGreatDoorF43
/- Own work: walks of the document's game: enter. -/
namespace Go.Proofs.YtmolmbeeoecnfaaGreatDoor
open Go.RowKit Go.BigFrame
set_option linter.unusedVariables false
set_option linter.unusedSimpArgs false

section
variable {w : World} {M : GM} {on : List Bool} {me : List ByteArray} {o : ByteArray}
theorem Gm.setOut (h : Gm w M on me o) (o' : ByteArray) : Gm (w.setCell ⟨M.gb, 6, none⟩ (.string o')) M on me o' := by
 have hf : Fr (· = M.gb) w (w.setCell ⟨M.gb, 6, none⟩ (.string o')) := Fr.setCell (· = M.gb) w _ _ rfl
 refine ⟨h.ct.fr hf (fun e => h.n3.1 e) (fun k hk e => (h.n4 k hk).1 e), Blk.set h.blk 6 _, Blk.fr h.bo hf (fun e => h.d1 e.symm), Blk.fr h.bm hf (fun e => h.d2 e.symm), h.lo, h.lm, h.d1, h.d2, h.d3, h.n3, h.n4⟩
theorem Gm.setOn (h : Gm w M on me o) (i : Nat) (hi : i < M.c.sts.length) (v : Bool) : Gm (w.setCell ⟨M.ob, i, none⟩ (.bool v)) M (on.set i v) me o := by
 have hf : Fr (· = M.ob) w (w.setCell ⟨M.ob, i, none⟩ (.bool v)) := Fr.setCell (· = M.ob) w _ _ rfl
 have hb : Blk (w.setCell ⟨M.ob, i, none⟩ (.bool v)) M.ob (bV (on.set i v) ++ M.so).toArray 4 := by
  have h1 := Blk.set h.bo i (.bool v)
  have e : (bV on ++ M.so).toArray.setIfInBounds i (.bool v) = (bV (on.set i v) ++ M.so).toArray := by
   rw [List.setIfInBounds_toArray, List.set_append_left _ _ (by rw [bV_len, h.lo]; exact hi)]
   simp [bV, List.map_set]
  rwa [e] at h1
 refine ⟨h.ct.fr hf (fun e => h.n3.2.1 e) (fun k hk e => (h.n4 k hk).2.1 e), Blk.fr h.blk hf (fun e => h.d1 e), hb, Blk.fr h.bm hf (fun e => h.d3 e.symm), by rw [List.length_set]; exact h.lo, h.lm, h.d1, h.d2, h.d3, h.n3, h.n4⟩
theorem Gm.setMe (h : Gm w M on me o) (i : Nat) (hi : i < M.c.sts.length) (v : ByteArray) : Gm (w.setCell ⟨M.mb, i, none⟩ (.string v)) M on (me.set i v) o := by
 have hf : Fr (· = M.mb) w (w.setCell ⟨M.mb, i, none⟩ (.string v)) := Fr.setCell (· = M.mb) w _ _ rfl
 have hb : Blk (w.setCell ⟨M.mb, i, none⟩ (.string v)) M.mb ((me.set i v).map Value.string ++ M.sm).toArray 9 := by
  have h1 := Blk.set h.bm i (.string v)
  have e : (me.map Value.string ++ M.sm).toArray.setIfInBounds i (.string v) = ((me.set i v).map Value.string ++ M.sm).toArray := by
   rw [List.setIfInBounds_toArray, List.set_append_left _ _ (by rw [List.length_map, h.lm]; exact hi)]
   simp [List.map_set]
  rwa [e] at h1
 refine ⟨h.ct.fr hf (fun e => h.n3.2.2 e) (fun k hk e => (h.n4 k hk).2.2 e), Blk.fr h.blk hf (fun e => h.d2 e), Blk.fr h.bo hf (fun e => h.d3 e), hb, h.lo, by rw [List.length_set]; exact h.lm, h.d1, h.d2, h.d3, h.n3, h.n4⟩
end
def OwnG (M : GM) (k : Nat) : Prop := k = M.gb ∨ k = M.ob ∨ k = M.mb
theorem onOf_set (n : Nat) (act : List Bool) (i : Nat) (v : Bool) (h : i < n) (hl : n ≤ act.length) : (onOf n act).set i v = onOf n (act.set i v) := by
 apply List.ext_getElem?
 intro j
 rw [List.getElem?_set]
 by_cases hj : j < n
 ·by_cases e : i = j
  ·subst e
   have : mem (act.set i v) i = v := mem_set_self (by omega) v
   simp [onOf, h, this]
  ·have : mem (act.set i v) j = mem act j := mem_set_ne e v
   simp [onOf, hj, e, this]
 ·have h1 : (onOf n act)[j]? = none := List.getElem?_eq_none (by rw [onOf_len]; omega)
  have h2 : (onOf n (act.set i v))[j]? = none := List.getElem?_eq_none (by rw [onOf_len]; omega)
  rw [h1, h2]
  by_cases e : i = j
  ·omega
  ·simp [e]
def GmP (w : World) (M : GM) (st : List StP) (p : Py) : Prop := Gm w M (onOf M.c.sts.length p.act) (meOf st p.mm) ⟨p.out.toArray⟩ ∧ p.act.length = 26
def DeC (M : GM) (st : List StP) (f : Nat) : Prop := ∀ (w : World) (p : Py) (s : Nat) (a : Am), GmP w M st p → s < st.length → st.length - s ≤ f → AmE st p.mm a s → MemI st p.mm → p.out.length + 160 * 2 ^ (25 - s) ≤ 70000000000000 →
 Calls Tryz.prog 35 #[.pointer (some ⟨M.gb, 0, none⟩), .int .i64 s, .agg (aimA st p.mm a)] w fun e w' => e = .returned (.tuple #[]) ∧ (enF st f s a p).out.length ≤ p.out.length + 160 * 2 ^ (25 - s) ∧ GmP w' M st (enF st f s a p) ∧ Fr (OwnG M) w w'
structure PlD (M : GM) (st : List StP) : Prop where
 k : Lk M.c.sts st
 t : Tr st
 n : NmD st
 z : SzOk st
 r : ∀ (k : Nat) (x : StP), st[k]? = some x → x.rem = true → x.kind = 1
 e : ∀ (k : Nat) (x : StR) (y : StP), M.c.sts[k]? = some x → st[k]? = some y → x.enter = y.enter ∧ x.leave = y.leave
theorem out_app (l : List UInt8) (a : ByteArray) : (⟨l.toArray⟩ : ByteArray) ++ a = ⟨(l ++ bls a).toArray⟩ := by
 apply ByteArray.ext
 rw [ByteArray.data_append]
 apply Array.toList_inj.1
 simp [bls]
theorem GmP.fr0 {w w' : World} {M : GM} {st : List StP} {p : Py} (h : GmP w M st p) (f : Fr (fun _ => False) w w') : GmP w' M st p := ⟨h.1.fr0 f, h.2⟩

theorem csStr_res (st : List StP) (cs : List CdP) : csStr (cs.map (resC st)) = csStr cs := by
 unfold csStr
 rw [List.flatMap_map]
 rfl
theorem un_trs {s : ByteArray} (h : (unE s).1 = 0) (G : GC) (hs : G.sts = (rd s).st) (ht : G.trs = (rd s).tr) : TrsR G (unSt s) (th0 s) := by
 obtain ⟨h160, hK, hw, hv, hm⟩ := unE_ok h
 have hok : (rcR s).1 = true := by
  simp only [rcK, Bool.and_eq_true] at hK
  exact hK.1
 have hM := (rd_eq s).1 hok
 have hp := plan_ok s h
 have hidx : ∀ c, idx G.sts c = idxP (rcR s).2.st c := fun c => by rw [hs, hM.st, idx_map]
 have hlen : G.sts.length = (rcR s).2.st.length := by rw [hs, hM.st, List.length_map]
 refine ⟨by rw [ht, hM.tr, List.length_map]; unfold th0 unTr; simp, fun k t hh h1 h2 => ?_⟩
 rw [ht, hM.tr, List.getElem?_map] at h1
 unfold th0 unTr at h2
 rw [List.map_map, List.getElem?_map] at h2
 cases hq : (rcR s).2.tr[k]? with
 | none => rw [hq] at h1; cases h1
 | some q0 =>
  rw [hq] at h1 h2
  simp only [Option.map_some, Option.some.injEq] at h1 h2
  subst h1
  subst h2
  have hmem : resQ (rcR s).2.st q0 ∈ unTr s := List.mem_map.2 ⟨q0, List.mem_of_getElem? hq, rfl⟩
  obtain ⟨p1, p2, p3, p4⟩ := hp.trs _ hmem
  refine ⟨⟨p1, rfl, hidx _⟩, rfl, (csStr_res _ _).symm, ?_, p3, rfl, rfl⟩
  intro c hc
  have h3 := p2 c hc
  obtain ⟨c0, hc0, rfl⟩ := List.mem_map.1 hc
  have h4 := idxP_bd (rcR s).2.st c0.name
  have h5 : (resC (rcR s).2.st c0).state = idxP (rcR s).2.st c0.name := rfl
  rw [h5] at h3
  refine ⟨(idxP (rcR s).2.st c0.name).toNat, ?_, ?_, ?_⟩
  ·rw [hidx]; show idxP (rcR s).2.st c0.name = _; omega
  ·rw [h5]; omega
  ·rw [hlen]; omega

theorem itF_keep {P : Py → Prop} (g : Nat → Py → Py) (hg : ∀ i p, P p → P (g i p)) : ∀ (n i : Nat) (p : Py), P p → P (itF g n i p)
 | 0, i, p, h => h
 | n + 1, i, p, h => itF_keep g hg n (i + 1) (g i p) (hg i p h)
theorem enF_mm (st : List StP) (m : List (List Bool)) : ∀ (f s : Nat) (a : Am) (p : Py), p.mm = m → (enF st f s a p).mm = m
 | 0, s, a, p, h => h
 | f + 1, s, a, p, h => by
  cases hx : st[s]? with
  | none => simp only [enF, hx]; exact h
  | some x =>
   by_cases h2 : x.kind = 2
   ·rw [enF_and hx h2]
    refine itF_keep (P := fun q => q.mm = m) _ (fun i q hq => ?_) _ _ _ h
    split
    ·exact enF_mm st m f i a q hq
    ·exact hq
   ·by_cases h3 : x.kind = 1
    ·rw [enF_or hx h3]
     exact enF_mm st m f _ _ _ h
    ·rw [enF_leaf hx h2 h3]; exact h
theorem hi_set {n : Nat} {l : List Bool} (h : NoHi n l) {k : Nat} (hk : k < n) (v : Bool) : NoHi n (l.set k v) := fun i hi => by
 rw [mem_set_ne (by omega)]; exact h i hi
theorem enF_hi (st : List StP) : ∀ (f s : Nat) (a : Am) (p : Py), NoHi st.length p.act → NoHi st.length (enF st f s a p).act
 | 0, s, a, p, h => h
 | f + 1, s, a, p, h => by
  cases hx : st[s]? with
  | none => simp only [enF, hx]; exact h
  | some x =>
   have hs := (List.getElem?_eq_some_iff.1 hx).1
   have h1 : NoHi st.length (p.act.set s true) := hi_set h hs true
   by_cases h2 : x.kind = 2
   ·rw [enF_and hx h2]
    refine itF_keep (P := fun q => NoHi st.length q.act) _ (fun i q hq => ?_) _ _ _ h1
    split
    ·exact enF_hi st f i a q hq
    ·exact hq
   ·by_cases h3 : x.kind = 1
    ·rw [enF_or hx h3]
     exact enF_hi st f _ _ _ h1
    ·rw [enF_leaf hx h2 h3]; exact h1
theorem lvF_mm (st : List StP) (left : List Bool) : ∀ (k : Nat) (p : Py), (lvF st left k p).mm = p.mm
 | 0, p => rfl
 | k + 1, p => by
  rw [lvF]
  split
  ·rw [lvF_mm st left k]
  ·exact lvF_mm st left k p
theorem lvF_hi (st : List StP) (left : List Bool) (k : Nat) (p : Py) (h : NoHi st.length p.act) : NoHi st.length (lvF st left k p).act := fun i hi => by
 rw [lvF_mem]
 split
 ·rfl
 ·exact h i hi
theorem lef_sub (st : List StP) (act : List Bool) (hl : act.length = 26) (q : TrQ) (i : Nat) (h : mem (lefB st act q) i = true) : mem act i = true := by
 unfold lefB at h
 split at h
 ·exact h
 ·unfold actB at h
  by_cases h26 : i < 26
  ·rw [mem_bel _ _ _ _ h26] at h
   simp only [Bool.and_eq_true] at h
   exact h.2
  ·rw [mem_farG (belK_len _ _ _) (by omega)] at h; cases h
theorem tkF_hi {st : List StP} (q : TrQ) (p : Py) (h : NoHi st.length p.act) : NoHi st.length (tkF st q p).act := by
 unfold tkF
 refine enF_hi st 26 _ _ _ ?_
 show NoHi st.length (lvF st _ st.length (rmF st _ st.length p)).act
 refine lvF_hi st _ _ _ ?_
 rw [rmF_act]; exact h
theorem tkF_mem {st : List StP} (q : TrQ) (p : Py) (hl : p.act.length = 26) (hL : Lg st p.act) (hm : MemI st p.mm) : MemI st (tkF st q p).mm := by
 have e : (tkF st q p).mm = (rmF st (lefB st p.act q) st.length p).mm := by
  unfold tkF
  exact enF_mm st _ 26 _ _ _ (lvF_mm st _ _ _)
 rw [e]
 exact memI_rm _ _ _ hl hL (fun i hi => lef_sub st p.act hl q i hi) hm
structure PyI (st : List StP) (p : Py) : Prop where
 l : p.act.length = 26
 g : Lg st p.act
 h : NoHi st.length p.act
 m : MemI st p.mm
theorem fold_pyI {st : List StP} {th : List TrH} (ht : Tr st) : ∀ (ns : List Nat) (p : Py), PyI st p → (∀ n ∈ ns, ∀ t, th[n]? = some t → ScOn st p.act t.q) → ns.Pairwise (Apt st th) → PyI st (ns.foldl (tk1 st th) p)
 | [], p, hp, _, _ => hp
 | n :: ns, p, hp, hs, hpw => by
  rw [List.foldl_cons]
  rw [List.pairwise_cons] at hpw
  cases hx : th[n]? with
  | none =>
   have e : tk1 st th p n = p := by unfold tk1; rw [hx]
   rw [e]
   exact fold_pyI ht ns p hp (fun m hm => hs m (by simp [hm])) hpw.2
  | some t =>
   have e : tk1 st th p n = tkF st t.q p := by unfold tk1; rw [hx]
   rw [e]
   obtain ⟨h1, h2⟩ := tkF_lg ht t.q p hp.l hp.g (hs n (by simp) t hx)
   refine fold_pyI ht ns _ ⟨by rw [tkF_alen]; exact hp.l, h1, tkF_hi t.q p hp.h, tkF_mem t.q p hp.l hp.g hp.m⟩ ?_ hpw.2
   intro m hm u hu
   have hold := hs m (by simp [hm]) u hu
   rcases hpw.1 m hm t u hx hu with hc | ⟨da, db, q1, q2, q3⟩
   ·exact Or.inl hc
   ·rcases hold with hc | ⟨d, d1, d2, d3, d4⟩
    ·exact Or.inl hc
    ·refine Or.inr ⟨d, d1, d2, d3, ?_⟩
     have : d = db := by omega
     subst this
     rw [h2 da q1 d q3]; exact d4
theorem plK_pyI {st : List StP} (th : List TrH) (ht : Tr st) (es : ByteArray) : ∀ k, PyI st (plK st th es k)
 | 0 => by
  have h1 := plK_lg th ht es 0
  refine ⟨h1.1, h1.2, enF_hi st 26 0 Am.free py0 (fun i _ => mem_no i), ?_⟩
  show MemI st (enF st 26 0 Am.free py0).mm
  rw [enF_mm st py0.mm 26 0 Am.free py0 rfl]
  exact memI_0 st
 | k + 1 => by
  have ih := plK_pyI th ht es k
  show PyI st (evStep st th (plK st th es k) (byte es k))
  generalize plK st th es k = p at ih ⊢
  unfold evStep spF
  have hin : ∀ n ∈ tkn st th p.act (byte es k), OwnOn st th p.act n := by
   intro n hn
   rcases (wcF_in st th p.act (clL st th p.act (byte es k)) ([], noSet)).1 n hn with h3 | h3
   ·simp at h3
   ·exact clK_on ht ih.g _ _ (Nat.le_refl _) n h3
  have hpw : (tkn st th p.act (byte es k)).Pairwise (Dis st th p.act) := wcF_dis st th p.act _ ([], noSet) (fun a ha => by simp at ha) List.Pairwise.nil
  refine fold_pyI ht _ { p with out := p.out ++ [46] } ⟨ih.l, ih.g, ih.h, ih.m⟩ ?_ (pairwise_impl _ hpw (fun a ha b hb hd => apt_of ht ih.l ih.g (hin a ha) (hin b hb) hd))
  intro n hn t hx
  obtain ⟨t', e1, e2, e3⟩ := hin n hn
  rw [hx] at e1
  obtain rfl : t = t' := by injection e1
  exact scOn_of ht ih.g e2 e3

set_option maxRecDepth 100000 in
set_option maxHeartbeats 4000000 in
theorem denter_step (M : GM) (st : List StP) (f : Nat) (hD : PlD M st) (hE : DeC M st f) : DeC M st (f + 1) := by
 intro w p s a hp hs hf ha hm hb
 have HD : Hid _ := hD
 have HE : Hid (DeC M st f) := hE
 have HAE : Hid _ := ha
 have HMI : Hid _ := hm
 have HB : Hid (p.out.length + 160 * 2 ^ (25 - s) ≤ 70000000000000) := hb
 have HL : Hid (M.c.sts.length = st.length) := hD.k.len
 have hlen := hD.t.wf.len
 have hpow : 1 ≤ 2 ^ (25 - s) := Nat.one_le_two_pow
 obtain ⟨y, hy⟩ : ∃ y, st[s]? = some y := ⟨_, List.getElem?_eq_getElem hs⟩
 have hsl : s < M.c.sts.length := by rw [hD.k.len]; exact hs
 obtain ⟨x, hx⟩ : ∃ x, M.c.sts[s]? = some x := ⟨_, List.getElem?_eq_getElem hsl⟩
 obtain ⟨E1, E2, -⟩ := hD.k.en s x hx
 have hent := (hD.e s x y hx hy).1
 have hys := (hD.z y (List.mem_of_getElem? hy)).1
 have hen := hD.t.wf.en s y hy
 have hxe : x.end_ = y.end_ := by rw [E1, endAt_at hy]
 have hxk : x.kind = y.kind := by rw [E2, kindAt_at hy]
 have HKY : Hid (kindAt st s = y.kind) := kindAt_at hy
 have HX : Hid _ := hx
 have HY : Hid _ := hy
 have HA0 : Hid (aimA st p.mm a = #[.int .i64 a.target, .string (mkStr a.mark), .string (byS st p.mm a)]) := rfl
 rw [HA0.out]
 have hA := Blk.new w #[.int .i64 a.target, .string (mkStr a.mark), .string (byS st p.mm a)] 99
 have hfa : Fr (fun _ => False) w (w.alloc (.cells #[.int .i64 a.target, .string (mkStr a.mark), .string (byS st p.mm a)] 99)) := by (repeat (first | exact Fr.refl _ _ | assumption | refine Fr.drewNr ?_ _ | refine Fr.drewr ?_ | refine Fr.allocr ?_ _ | refine Fr.setCellr ?_ _ _ (by first | exact Or.inl rfl | (right; simp; done) | (right; simp; omega))))
 have hpa := hp.fr0 hfa
 have hltw : M.gb < w.heap.size ∧ M.ob < w.heap.size ∧ M.mb < w.heap.size := ⟨Blk.lt hp.1.blk, Blk.lt hp.1.bo, Blk.lt hp.1.bm⟩
 have HA1 : Hid (∀ q : Py, q.mm = p.mm → aimA st q.mm a = #[.int .i64 a.target, .string (mkStr a.mark), .string (byS st p.mm a)]) := fun q hq => by rw [hq]; rfl
 clear hp hx hy hD hE ha hm hb E1 E2
 generalize mkStr a.mark = MK at *
 generalize byS st p.mm a = BY at *
 obtain ⟨c0, c1⟩ := hpa.1.cp
 have c4 := hpa.1.c4
 have c6 := hpa.1.c6
 obtain ⟨-, -, -, -, x4, x5, x6, -⟩ := st8 hpa.1.ct.r3 HX.out
 rw [hent] at x6
 have z6 := Blk.frozen hpa.1.blk 6
 have hosz : (⟨p.out.toArray⟩ : ByteArray).size ≤ 70000000000000 := by
  have : (⟨p.out.toArray⟩ : ByteArray).size = p.out.length := by show p.out.toArray.size = _; simp
  have := HB.out; omega
 go_enter Tryz.func35, Tryz.ntmps35
 go_wp2_with fail
 generalize w.alloc (.cells #[.int .i64 a.target, .string MK, .string BY] 99) = W at *
 generalize hab : w.heap.size = ab at *
 have HAB : Hid _ := hab
 clear hab
 have hgA : Gm ((W.setCell ⟨M.gb, 6, none⟩ (.string (⟨p.out.toArray⟩ ++ y.enter))).drew) M (onOf M.c.sts.length p.act) (meOf st p.mm) (⟨p.out.toArray⟩ ++ y.enter) := (hpa.1.setOut _).fr0 (by (repeat (first | exact Fr.refl _ _ | assumption | refine Fr.drewNr ?_ _ | refine Fr.drewr ?_ | refine Fr.allocr ?_ _ | refine Fr.setCellr ?_ _ _ (by first | exact Or.inl rfl | (right; simp; done) | (right; simp; omega)))))
 have hAA := Blk.drew (Blk.other hA ⟨M.gb, 6, none⟩ (.string (⟨p.out.toArray⟩ ++ y.enter)) (by have := HAB.out; show ab ≠ M.gb; omega))
 have hfA : Fr (OwnG M) w ((W.setCell ⟨M.gb, 6, none⟩ (.string (⟨p.out.toArray⟩ ++ y.enter))).drew) := ((hfa.mono (fun _ _ h => h.elim)).setCellr ⟨M.gb, 6, none⟩ _ (Or.inl (Or.inl rfl))).drewr
 have hact := hpa.2
 go_region
 all_goals
  clear c0 c1 c4 c6 x4 x5 x6 z6
  generalize (W.setCell ⟨M.gb, 6, none⟩ (.string (⟨p.out.toArray⟩ ++ y.enter))).drew = W1 at hgA hAA hfA ⊢
  have c4 := hgA.c4
  have fs := hgA.on' hsl
  have zs := Blk.frozen hgA.bo s
  have hob := Blk.lt hgA.bo
  go_upto_region 3 with fail
  have hg2 := hgA.setOn s hsl true
  have hA2 := Blk.other hAA ⟨M.ob, s, none⟩ (.bool true) (by have := HAB.out; show ab ≠ M.ob; omega)
  have hf2 := hfA.setCellr ⟨M.ob, s, none⟩ (.bool true) (Or.inl (Or.inr (Or.inl rfl)))
  clear c4 fs zs hob
  generalize W1.setCell ⟨M.ob, s, none⟩ (.bool true) = W2 at hg2 hA2 hf2 ⊢
  rw [onOf_set _ _ _ _ hsl (by rw [hact]; have := HL.out; omega), out_app] at hg2
  have hp1 : GmP W2 M st { p with act := p.act.set s true, out := p.out ++ bls y.enter } := ⟨hg2, by show (p.act.set s true).length = 26; rw [List.length_set]; exact hact⟩
  clear hgA hAA hfA hA hpa hfa
  obtain ⟨c0, c1⟩ := hg2.cp
  obtain ⟨-, -, -, -, x4, x5, -, -⟩ := st8 hg2.ct.r3 HX.out
  have a0 : W2.cell? ⟨ab, 0, none⟩ = some (.int .i64 a.target) := by rw [Blk.cell hA2]; rfl
  have a1 : W2.cell? ⟨ab, 1, none⟩ = some (.string MK) := by rw [Blk.cell hA2]; rfl
  have a2 : W2.cell? ⟨ab, 2, none⟩ = some (.string BY) := by rw [Blk.cell hA2]; rfl
  have HOL : Hid ((p.out ++ bls y.enter).length ≤ p.out.length + 160) := by show _ ≤ _; rw [List.length_append, bls_len]; omega
  by_cases hk1 : y.kind = 1
  ·have kb : ((x.kind : Int) == 1) = true := by rw [hxk, hk1]; rfl
   have HR : Hid (enF st (f + 1) s a p = enF st f (chP st p.mm s a).1 (chP st p.mm s a).2 { p with act := p.act.set s true, out := p.out ++ bls y.enter }) := enF_or HY.out hk1 f a p
   have hks : kindAt st s = 1 := by rw [HKY.out]; exact hk1
   obtain ⟨q1, q2⟩ := ch_ask HD.out.t HD.out.r HMI.out hs hks HAE.out
   have HCH : Hid _ := chP_ch HD.out.t hs (by rw [endAt_at HY.out]; exact HD.out.t.wf.inn s y HY.out (by omega)) p.mm a
   have HAM : Hid _ := chP_amE HD.out.t HD.out.r HMI.out hs hks HAE.out
   have HCC : Hid (∀ w', Fr (fun _ => False) W2 w' → Calls Tryz.prog 54 #[.pointer (some ⟨M.gb, 0, none⟩), .int .i64 s, .agg #[.int .i64 a.target, .string MK, .string BY]] w' fun e w'' => e = .returned (.tuple #[.int .i64 (chP st p.mm s a).1, .agg #[.int .i64 (chP st p.mm s a).2.target, .string (mkStr (chP st p.mm s a).2.mark), .string (byS st p.mm (chP st p.mm s a).2)]]) ∧ Fr (fun _ => False) w' w'') := fun w' f' => by
    have h9 := dchoose_any w' M st p.mm _ _ (hg2.fr0 f') HD.out.k HD.out.t HD.out.n s a hs HAE.out.i q1 q2
    rw [HA0.out] at h9
    exact h9
   have HPD : Hid (GmP W2 M st { p with act := p.act.set s true, out := p.out ++ bls y.enter }) := hp1
   clear hk1 hks q1 q2
   generalize chP st p.mm s a = CP at *
   go_wp2_with fail
   refine (HCC.out W2 (Fr.refl _ _)).mono ?_
   rintro e w3 ⟨rfl, hf3⟩
   have hp3 := HPD.out.fr0 (hf3.thenr (by (repeat (first | exact Fr.refl _ _ | assumption | refine Fr.drewNr ?_ _ | refine Fr.drewr ?_ | refine Fr.allocr ?_ _ | refine Fr.setCellr ?_ _ _ (by first | exact Or.inl rfl | (right; simp; done) | (right; simp; omega)))) : Fr (fun _ => False) w3 (w3.alloc (.cells #[.int .i64 CP.2.target, .string (mkStr CP.2.mark), .string (byS st p.mm CP.2)] 99))) (fun _ _ h => h))
   have hf3a := (hf2.thenr hf3 (fun _ _ h => h.elim)).allocr (.cells #[.int .i64 CP.2.target, .string (mkStr CP.2.mark), .string (byS st p.mm CP.2)] 99)
   have hcr := HD.out.t.child HCH.out.1 HCH.out.2
   have hpm := pow_mono (i := s + 1) (j := CP.1) (by omega)
   have hph : 160 * 2 ^ (25 - s) = 160 * 2 ^ (25 - (s + 1)) + 160 * 2 ^ (25 - (s + 1)) := by
    have h25 : s + 1 ≤ 25 := by have := HCH.out.1; omega
    have := pow_half (i := s + 1) h25
    rw [show 26 - (s + 1) = 25 - s by omega] at this
    exact this
   have hp1' : 1 ≤ 2 ^ (25 - (s + 1)) := Nat.one_le_two_pow
   have HEN := HE.out (w3.alloc (.cells #[.int .i64 CP.2.target, .string (mkStr CP.2.mark), .string (byS st p.mm CP.2)] 99)) { p with act := p.act.set s true, out := p.out ++ bls y.enter } CP.1 CP.2 hp3 HCH.out.1 (by omega) HAM.out HMI.out (by have := HOL.out; have := HB.out; show (p.out ++ bls y.enter).length + _ ≤ _; omega)
   have HAQ : Hid (aimA st ({ p with act := p.act.set s true, out := p.out ++ bls y.enter } : Py).mm CP.2 = #[.int .i64 CP.2.target, .string (mkStr CP.2.mark), .string (byS st p.mm CP.2)]) := rfl
   rw [HAQ.out] at HEN
   have HEN2 : Hid _ := HEN
   clear HEN hp3
   go_wp2_with fail
   refine Calls.mono HEN2.out ?_
   rintro e w4 ⟨rfl, hl4, hp4, hf4⟩
   go_wp2_with fail
   go_end0
   refine ⟨rfl, ?_, ?_, hf3a.thenr hf4 (fun _ _ h => h)⟩
   ·rw [HR.out]
    have := HOL.out
    have h8 : ({ p with act := p.act.set s true, out := p.out ++ bls y.enter } : Py).out.length = (p.out ++ bls y.enter).length := rfl
    omega
   ·rw [HR.out]; exact hp4
  ·have kb : ((x.kind : Int) == 1) = false := by rw [hxk, beq_eq_false_iff_ne]; omega
   by_cases hk2 : y.kind = 2
   ·have kb2 : ((x.kind : Int) == 2) = true := by rw [hxk, hk2]; rfl
    have HR : Hid (enF st (f + 1) s a p = itF (fun i q => if outAt st i = (s : Int) then enF st f i a q else q) (x.end_ - (s + 1)) (s + 1) { p with act := p.act.set s true, out := p.out ++ bls y.enter }) := by show _ = _; rw [hxe]; exact enF_and HY.out hk2 f a p
    have hks : kindAt st s = 2 := by rw [HKY.out]; exact hk2
    have HAND : Hid (∀ k, Chd st s k → AmE st p.mm a k) := fun k hc => and_amE HD.out.t HMI.out hs hks HAE.out hc
    have HQ : Hid (({ p with act := p.act.set s true, out := p.out ++ bls y.enter } : Py).out.length + 160 * 2 ^ (26 - (s + 1)) ≤ p.out.length + 160 + 160 * 2 ^ (25 - s)) := by
     have := HOL.out
     show (p.out ++ bls y.enter).length + 160 * 2 ^ (26 - (s + 1)) ≤ _
     rw [show 26 - (s + 1) = 25 - s by omega]
     omega
    have HP1 : Hid (GmP W2 M st { p with act := p.act.set s true, out := p.out ++ bls y.enter }) := hp1
    have hnA : ¬ OwnG M ab := by
     rintro (h | h | h)
     ·omega
     ·omega
     ·omega
    clear hk1 hk2 hks hp1 hg2
    go_wp2_with fail
    clear c0 c1 x4 x5 a0 a1 a2
    go_loopg [8] 27 (fun g vi wr => ∃ (i : Nat) (q : Py), s + 1 ≤ i ∧ i ≤ x.end_ ∧ vi = .int .i64 i ∧ Hid (GmP wr M st q) ∧ q.mm = p.mm ∧ Fr (OwnG M) w wr ∧ Blk wr ab #[.int .i64 a.target, .string MK, .string BY] 99 ∧ Hid (enF st (f + 1) s a p = itF (fun i q => if outAt st i = (s : Int) then enF st f i a q else q) (x.end_ - i) i q) ∧ Hid (q.out.length + 160 * 2 ^ (26 - i) ≤ p.out.length + 160 + 160 * 2 ^ (25 - s)) ∧ x.end_ - i < g)
    case atStart => exact ⟨s + 1, _, Nat.le_refl _, by omega, by go_num, HP1, rfl, hf2, hA2, HR, HQ, by omega⟩
    case round =>
     obtain ⟨i, q, hi1, hi2, rfl, hpq, hqm, hfq, hAq, HF, HLq, hg⟩ := hrel
     obtain ⟨c0, c1⟩ := hpq.out.1.cp
     obtain ⟨-, -, -, -, -, x5, -, -⟩ := st8 hpq.out.1.ct.r3 HX.out
     by_cases hlt : (i : Int) < x.end_
     ·have hil : i < M.c.sts.length := by have := HL.out; omega
      have his : i < st.length := by have := HL.out; omega
      obtain ⟨z, hz⟩ : ∃ z, M.c.sts[i]? = some z := ⟨_, List.getElem?_eq_getElem hil⟩
      obtain ⟨-, -, z2, -, -, -, -, -⟩ := st8 hpq.out.1.ct.r3 hz
      have hpz : z.parent = outAt st i := by have := HD.out.k.pa i; rw [parAt, hz] at this; exact this
      have hph := pow_half (i := i) (by omega)
      have HG : Hid (enF st (f + 1) s a p = itF (fun i q => if outAt st i = (s : Int) then enF st f i a q else q) (x.end_ - (i + 1)) (i + 1) (if outAt st i = (s : Int) then enF st f i a q else q)) := by
       show _ = _
       rw [HF.out, show x.end_ - i = (x.end_ - (i + 1)) + 1 by omega, itF]
      have HPH : Hid (160 * 2 ^ (26 - i) = 160 * 2 ^ (25 - i) + 160 * 2 ^ (25 - i)) := hph
      clear hz HF hph
      by_cases ho : z.parent = (s : Int)
      ·have hob : (z.parent == (s : Int)) = true := by rw [beq_iff_eq]; exact ho
       have HG2 : Hid (enF st (f + 1) s a p = itF (fun i q => if outAt st i = (s : Int) then enF st f i a q else q) (x.end_ - (i + 1)) (i + 1) (enF st f i a q)) := by show _ = _; rw [HG.out, if_pos (by rw [← hpz]; exact ho)]
       have HCD : Hid (Chd st s i) := ⟨his, by rw [← hpz]; exact ho⟩
       have a0 : wr.cell? ⟨ab, 0, none⟩ = some (.int .i64 a.target) := by rw [Blk.cell hAq]; rfl
       have a1 : wr.cell? ⟨ab, 1, none⟩ = some (.string MK) := by rw [Blk.cell hAq]; rfl
       have a2 : wr.cell? ⟨ab, 2, none⟩ = some (.string BY) := by rw [Blk.cell hAq]; rfl
       have HEN := HE.out wr q i a hpq.out his (by omega) (by rw [hqm]; exact HAND.out i HCD.out) (by rw [hqm]; exact HMI.out) (by have h1 := HLq.out; have h2 := HB.out; have h3 := HPH.out; have : 1 ≤ 2 ^ (25 - i) := Nat.one_le_two_pow; omega)
       rw [HA1.out q hqm] at HEN
       have HEN2 : Hid _ := HEN
       clear HG ho hpz HEN
       go_wp2_with fail
       refine Calls.mono HEN2.out ?_
       rintro e w4 ⟨rfl, hl4, hp4, hf4⟩
       have hA4 := Blk.fr hAq hf4 hnA
       have hf4' := hfq.thenr hf4 (fun _ _ h => h)
       have HP4 : Hid (GmP w4 M st (enF st f i a q)) := hp4
       have HL4 : Hid ((enF st f i a q).out.length + 160 * 2 ^ (26 - (i + 1)) ≤ p.out.length + 160 + 160 * 2 ^ (25 - s)) := by
        have h1 := HLq.out; have h3 := HPH.out
        show _ ≤ _
        rw [show 26 - (i + 1) = 25 - i by omega]
        omega
       have hm4 : (enF st f i a q).mm = p.mm := enF_mm st p.mm f i a q hqm
       clear hl4 hp4 hf4 HEN2
       go_wp2_with fail
       go_roundg (x.end_ - (i + 1) + 1)
       case measure => omega
       case rel => exact ⟨i + 1, _, by omega, by omega, by go_num, HP4, hm4, hf4', hA4, HG2, HL4, by omega⟩
      ·have hob : (z.parent == (s : Int)) = false := by rw [beq_eq_false_iff_ne]; exact ho
       have HG2 : Hid (enF st (f + 1) s a p = itF (fun i q => if outAt st i = (s : Int) then enF st f i a q else q) (x.end_ - (i + 1)) (i + 1) q) := by show _ = _; rw [HG.out, if_neg (by rw [← hpz]; exact ho)]
       have HL4 : Hid (q.out.length + 160 * 2 ^ (26 - (i + 1)) ≤ p.out.length + 160 + 160 * 2 ^ (25 - s)) := by
        have h1 := HLq.out; have h3 := HPH.out
        show _ ≤ _
        rw [show 26 - (i + 1) = 25 - i by omega]
        omega
       clear HG ho hpz
       go_wp2_with fail
       go_roundg (x.end_ - (i + 1) + 1)
       case measure => omega
       case rel => exact ⟨i + 1, q, by omega, by omega, by go_num, hpq, hqm, hfq, hAq, HG2, HL4, by omega⟩
     ·have hie : i = x.end_ := by omega
      have HR2 : Hid (enF st (f + 1) s a p = q) := by show _ = _; rw [HF.out, hie, Nat.sub_self, itF]
      have HL4 : Hid (q.out.length ≤ p.out.length + 160 * 2 ^ (25 - s)) := by
       have h1 := HLq.out
       have : 1 ≤ 2 ^ (26 - i) := Nat.one_le_two_pow
       show _ ≤ _
       omega
      clear hie HF HLq
      go_wp2_with fail
      go_end0
      rw [HR2.out]
      exact ⟨rfl, HL4.out, hpq.out, hfq⟩
   ·have kb2 : ((x.kind : Int) == 2) = false := by rw [hxk, beq_eq_false_iff_ne]; omega
    have HR : Hid (enF st (f + 1) s a p = { p with act := p.act.set s true, out := p.out ++ bls y.enter }) := enF_leaf HY.out hk2 hk1 f a p
    clear hk1 hk2
    go_wp2_with fail
    go_end0
    refine ⟨rfl, ?_, ?_, hf2⟩
    ·rw [HR.out]
     have := HOL.out
     show (p.out ++ bls y.enter).length ≤ _
     omega
    ·rw [HR.out]; exact hp1
theorem denter_any (M : GM) (st : List StP) (hD : PlD M st) : ∀ f, DeC M st f
 | 0 => by intro w p s a hp hs hf; omega
 | f + 1 => denter_step M st f hD (denter_any M st hD f)
end Go.Proofs.YtmolmbeeoecnfaaGreatDoor
