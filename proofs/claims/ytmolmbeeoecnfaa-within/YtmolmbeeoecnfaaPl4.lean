/- Own work: the walk of the program's plan: markRemembered. -/
import Derived.Test.YtmolmbeeoecnfaaPl3
namespace Go.Proofs.Ytmolmbeeoecnfaa
open Go.RowKit Go.BigFrame
set_option linter.unusedVariables false
set_option linter.unusedSimpArgs false

def setRem (x : StP) : StP := { x with rem := true }
def setWh (x : StP) : StP := { x with wh := true }
def mark1 (st : List StP) (t : TrQ) : List StP := if t.mark = 0 then st else if t.mark = 42 then (st.modify t.ts.toNat setRem).modify t.ts.toNat setWh else st.modify t.ts.toNat setRem
def kdP (st : List StP) (i : Int) : Nat := match st[i.toNat]? with | some x => x.kind | none => 0
def badM (st : List StP) (t : TrQ) : Bool := !(t.mark == 0) && !(kdP st t.ts == 1)
def mrk (st : List StP) (tr : List TrQ) : Int := match tr.find? (badM st) with | some t => t.mp | none => -1
def stTo (st : List StP) (th : List TrH) (k : Nat) : List StP := ((th.take k).map TrH.q).foldl mark1 st

theorem mark1_len (st : List StP) (t : TrQ) : (mark1 st t).length = st.length := by unfold mark1; split; rfl; split <;> simp
theorem mark1_get (st : List StP) (t : TrQ) (i : Nat) : ((mark1 st t)[i]?).map StP.kind = (st[i]?).map StP.kind ∧ ((mark1 st t)[i]?).map StP.name = (st[i]?).map StP.name := by
  have key : ∀ (l : List StP) (k : Nat) (g : StP → StP), (∀ x, (g x).kind = x.kind ∧ (g x).name = x.name) → ((l.modify k g)[i]?).map StP.kind = (l[i]?).map StP.kind ∧ ((l.modify k g)[i]?).map StP.name = (l[i]?).map StP.name := by
    intro l k g hg
    rw [List.getElem?_modify]
    split
    · cases l[i]? <;> simp [hg]
    · simp
  unfold mark1
  split
  · exact ⟨rfl, rfl⟩
  · split
    · have a := key (st.modify t.ts.toNat setRem) t.ts.toNat setWh (fun _ => ⟨rfl, rfl⟩)
      have b := key st t.ts.toNat setRem (fun _ => ⟨rfl, rfl⟩)
      exact ⟨a.1.trans b.1, a.2.trans b.2⟩
    · exact key st t.ts.toNat setRem (fun _ => ⟨rfl, rfl⟩)
theorem fold_get (tr : List TrQ) : ∀ (st : List StP), (tr.foldl mark1 st).length = st.length ∧ ∀ i : Nat, ((tr.foldl mark1 st)[i]?).map StP.kind = (st[i]?).map StP.kind := by
  induction tr with
  | nil => intro st; exact ⟨rfl, fun _ => rfl⟩
  | cons t tr ih =>
    intro st
    have h := ih (mark1 st t)
    exact ⟨h.1.trans (mark1_len st t), fun i => (h.2 i).trans (mark1_get st t i).1⟩
theorem stTo_step (st : List StP) (th : List TrH) (k : Nat) (t : TrH) (h : th[k]? = some t) : stTo st th (k + 1) = mark1 (stTo st th k) t.q := by
  unfold stTo
  obtain ⟨hk, rfl⟩ := List.getElem?_eq_some_iff.1 h
  rw [List.take_succ_eq_append_getElem hk, List.map_append, List.foldl_append]
  rfl
theorem stTo_all (st : List StP) (th : List TrH) : stTo st th th.length = (th.map TrH.q).foldl mark1 st := by simp [stTo]
theorem stTo_len (st : List StP) (th : List TrH) (k : Nat) : (stTo st th k).length = st.length := (fold_get _ st).1

def goodM (st : List StP) (th : List TrH) (k : Nat) : Prop := ∀ i t, i < k → th[i]? = some t → badM st t.q = false
theorem mrk_none {st : List StP} {th : List TrH} (h : goodM st th th.length) : mrk st (th.map TrH.q) = -1 := by
  rw [mrk, List.find?_eq_none.2 ?_]
  intro q hq
  obtain ⟨t, ht, rfl⟩ := List.mem_map.1 hq
  obtain ⟨i, hi⟩ := List.mem_iff_getElem?.1 ht
  simp [h i t (List.getElem?_eq_some_iff.1 hi).1 hi]
theorem mrk_some {st : List StP} {th : List TrH} {k : Nat} {t : TrH} (h : goodM st th k) (hk : th[k]? = some t) (hb : badM st t.q = true) : mrk st (th.map TrH.q) = t.q.mp := by
  have e : th.map TrH.q = (th.take k).map TrH.q ++ t.q :: (th.drop (k + 1)).map TrH.q := by
    conv => lhs; rw [split_at hk]
    simp
  rw [mrk, e, find_at (badM st) _ _ _ ?_ hb]
  intro q hq
  obtain ⟨u, hu, rfl⟩ := List.mem_map.1 hq
  obtain ⟨i, hi⟩ := List.mem_iff_getElem?.1 hu
  rw [List.getElem?_take] at hi
  split at hi
  · exact h i u ‹_› hi
  · cases hi
theorem goodM_step {st : List StP} {th : List TrH} {k : Nat} {t : TrH} (h : goodM st th k) (hk : th[k]? = some t) (hb : badM st t.q = false) : goodM st th (k + 1) := by
  intro i u hi hu
  by_cases e : i = k
  · subst e
    rw [hk] at hu
    injection hu with hu
    subst hu
    exact hb
  · exact h i u (by omega) hu

def MrPost (w : World) (b : Nat) (st : List StP) (ws : Ws) (e : Ending) (w' : World) : Prop :=
  e = .returned (.int .i64 (mrk st (ws.th.map TrH.q))) ∧ Fr (OwnR b ws) w w' ∧ (mrk st (ws.th.map TrH.q) = -1 → PlV w' b ((ws.th.map TrH.q).foldl mark1 st) ws)

theorem PlV.pokeRem {w : World} {b : Nat} {st : List StP} {ws : Ws} {g c m : Nat} (h : PlV w b st ws) (hv : ws.v2 = .slice (some ⟨g, 0, none⟩) st.length c) (hm : m < st.length) :
    PlV (w.setCell ⟨g, m * 10 + 8, none⟩ (.bool true)) b (st.modify m setRem) ws ∧ Fr (OwnR b ws) w (w.setCell ⟨g, m * 10 + 8, none⟩ (.bool true)) :=
  h.pokeS hv (m * 10 + 8) _ _ (by simp) (flat_set StP.cells 10 StP.len setRem 8 (by decide) _ st m (fun y _ => rfl) hm) (by omega)
theorem PlV.pokeWh {w : World} {b : Nat} {st : List StP} {ws : Ws} {g c m : Nat} (h : PlV w b st ws) (hv : ws.v2 = .slice (some ⟨g, 0, none⟩) st.length c) (hm : m < st.length) :
    PlV (w.setCell ⟨g, m * 10 + 9, none⟩ (.bool true)) b (st.modify m setWh) ws ∧ Fr (OwnR b ws) w (w.setCell ⟨g, m * 10 + 9, none⟩ (.bool true)) :=
  h.pokeS hv (m * 10 + 9) _ _ (by simp) (flat_set StP.cells 10 StP.len setWh 9 (by decide) _ st m (fun y _ => rfl) hm) (by omega)

set_option maxRecDepth 100000 in
set_option maxHeartbeats 2000000 in
theorem markRem_any (w : World) (b : Nat) (st : List StP) (ws : Ws) (hp : PlV w b st ws) (hl : st.length ≤ 1000000) (hl3 : ws.th.length ≤ 1000000) (hts : ∀ t ∈ ws.th, 0 ≤ t.q.ts ∧ t.q.ts < st.length) :
    Calls Try.prog 47 #[.pointer (some ⟨b, 0, none⟩)] w (MrPost w b st ws) := by
  obtain ⟨-, c1, -⟩ := hp.cells
  obtain ⟨va, vc, hv⟩ := row_len hp.r3
  rw [hv] at c1
  have HV : Hid _ := hv
  have HTS : Hid (∀ t ∈ ws.th, 0 ≤ t.q.ts ∧ t.q.ts < st.length) := hts
  clear hv hts
  go_enter Try.func47, Try.ntmps47
  go_wp2_with fail
  clear c1
  go_loopw [11] (fun i wr => ∃ k : Nat, k ≤ ws.th.length ∧ i = .int .i64 k ∧ PlV wr b (stTo st ws.th k) ws ∧ Fr (OwnR b ws) w wr ∧ goodM st ws.th k) (fun i _ => ws.th.length - (intOf i).toNat)
  case atStart => exact ⟨0, Nat.zero_le _, rfl, hp, Fr.refl _ _, fun i t hi => by omega⟩
  case round =>
    obtain ⟨k, hk, rfl, hpk, hfr, hgood⟩ := hrel
    have HGD : Hid _ := hgood
    clear hgood
    by_cases hlt : (k : Int) < ws.th.length
    · have hlt' : k < ws.th.length := by omega
      obtain ⟨g3, c3, hv3, hcc⟩ := row_form hpk.r3 (by omega)
      have hvv := HV.out.symm.trans hv3
      injection hvv with q1 q2 q3
      subst q1
      subst q3
      clear q2
      obtain ⟨t, ht⟩ : ∃ t, ws.th[k]? = some t := ⟨_, List.getElem?_eq_getElem hlt'⟩
      obtain ⟨x0, x1, x2, x3, x4, x5, x6, x7, x8, -⟩ := hpk.tr9 hv3 ht
      obtain ⟨ca, cc, hcv⟩ := row_len (hp.rc t (List.mem_of_getElem? ht))
      rw [hcv] at x2
      obtain ⟨ts0, ts1⟩ := HTS.out t (List.mem_of_getElem? ht)
      obtain ⟨m, hm⟩ := Int.eq_ofNat_of_zero_le ts0
      have hm' : t.q.ts = (m : Int) := hm
      rw [hm'] at x5
      have hml : m < st.length := by omega
      have hslen := stTo_len st ws.th k
      obtain ⟨g2, c2, hv2, hcc2⟩ := row_form hpk.r2 (by omega)
      obtain ⟨y, hy⟩ : ∃ y, (stTo st ws.th k)[m]? = some y := ⟨_, List.getElem?_eq_getElem (by omega)⟩
      have hr2 := hpk.r2
      rw [hv2] at hr2
      obtain ⟨-, -, -, y3, -⟩ := st10 hr2 hy
      have hkk : (y.kind : Nat) = kdP st t.q.ts := by
        have h1 := (fold_get ((ws.th.take k).map TrH.q) st).2 m
        have h2 : (stTo st ws.th k)[m]? = some y := hy
        unfold stTo at h2
        rw [h2] at h1
        rw [kdP, hm', Int.toNat_natCast]
        cases hs : st[m]? with
        | none => rw [hs] at h1; simp at h1
        | some z => rw [hs] at h1; simpa using h1
      have y8 := row_cell hr2 (m * 10 + 8) (.bool y.rem) (by rw [flat_get StP.cells 10 StP.len _ m 8 y hy (by omega)]; rfl)
      have y9 := row_cell hr2 (m * 10 + 9) (.bool y.wh) (by rw [flat_get StP.cells 10 StP.len _ m 9 y hy (by omega)]; rfl)
      obtain ⟨k8, z8⟩ := y8
      obtain ⟨k9, z9⟩ := y9
      obtain ⟨b0, -, -⟩ := hpk.cells
      rw [hv2] at b0
      have hbl := Blk.lt hpk.blk
      have hg2l : g2 < wr.heap.size := World.block_lt_of_cell? _ _ y3
      have HT : Hid (ws.th[k]? = some t) := ht
      have HM : Hid (t.q.ts = (m : Int)) := hm'
      have HKK : Hid _ := hkk
      have HV2 : Hid _ := hv2
      have hml' : (m : Int) < (stTo st ws.th k).length := by omega
      have hsl1000 : (stTo st ws.th k).length ≤ 1000000 := by omega
      clear hv3 ht hcv hcc ts0 ts1 hm hm' hy hr2 hkk hv2
      by_cases hm0 : t.q.mark = 0
      · have hb0 : (((t.q.mark).toNat : Int) == 0) = true := by rw [hm0]; rfl
        have HB : Hid (badM st t.q = false) := by show _ = _; simp [badM, hm0]
        have HS : Hid (stTo st ws.th (k + 1) = stTo st ws.th k) := by show _ = _; rw [stTo_step st ws.th k t HT.out, mark1, if_pos hm0]
        clear hm0
        go_wp2_with fail
        go_roundw
        case rel => exact ⟨k + 1, by omega, by go_num, by rw [HS.out]; exact hpk.fr0 (Fr.alloc _ _ _), hfr.allocr _, goodM_step HGD.out HT.out HB.out⟩
        case measure => simp [intOf]; omega
      · have hb0 : (((t.q.mark).toNat : Int) == 0) = false := by
          rw [beq_eq_false_iff_ne]; intro h; exact hm0 (UInt8.toNat_inj.1 (by show _ = 0; omega))
        have HM0 : Hid (¬ t.q.mark = 0) := hm0
        clear hm0
        by_cases hk1 : y.kind = 1
        · have hkb : ((y.kind : Int) != 1) = false := by simp; omega
          have HB : Hid (badM st t.q = false) := by show _ = _; simp [badM, ← HKK.out, hk1]
          clear hk1
          by_cases h42 : t.q.mark = 42
          · have hb42 : (((t.q.mark).toNat : Int) == 42) = true := by rw [h42]; rfl
            have HS : Hid (stTo st ws.th (k + 1) = ((stTo st ws.th k).modify m setRem).modify m setWh) := by show _ = _; rw [stTo_step st ws.th k t HT.out, mark1, if_neg HM0.out, if_pos h42, HM.out, Int.toNat_natCast]
            clear h42
            go_wp2_with fail
            obtain ⟨p1, f1⟩ := hpk.pokeRem HV2.out (by omega : m < (stTo st ws.th k).length)
            obtain ⟨p2, f2⟩ := p1.pokeWh (g := g2) (c := c2) (by rw [List.length_modify]; exact HV2.out) (by rw [List.length_modify]; omega : m < ((stTo st ws.th k).modify m setRem).length)
            refine ⟨⟨k + 1, by omega, by go_num, ?_, ?_, goodM_step HGD.out HT.out HB.out⟩, by simp [intOf]; omega⟩
            · rw [HS.out]; exact p2.fr0 (Fr.alloc _ _ _)
            · exact ((hfr.thenr f1 (fun _ _ h => h)).thenr f2 (fun _ _ h => h)).allocr _
          · have hb42 : (((t.q.mark).toNat : Int) == 42) = false := by
              rw [beq_eq_false_iff_ne]; intro h; exact h42 (UInt8.toNat_inj.1 (by show _ = 42; omega))
            have HS : Hid (stTo st ws.th (k + 1) = (stTo st ws.th k).modify m setRem) := by show _ = _; rw [stTo_step st ws.th k t HT.out, mark1, if_neg HM0.out, if_neg h42, HM.out, Int.toNat_natCast]
            clear h42
            go_wp2_with fail
            obtain ⟨p1, f1⟩ := hpk.pokeRem HV2.out (by omega : m < (stTo st ws.th k).length)
            refine ⟨⟨k + 1, by omega, by go_num, ?_, ?_, goodM_step HGD.out HT.out HB.out⟩, by simp [intOf]; omega⟩
            · rw [HS.out]; exact p1.fr0 (Fr.alloc _ _ _)
            · exact (hfr.thenr f1 (fun _ _ h => h)).allocr _
        · have hkb : ((y.kind : Int) != 1) = true := by simp; omega
          have HB : Hid (badM st t.q = true) := by show _ = _; simp [badM, ← HKK.out, hk1, HM0.out]
          have HR : Hid _ := mrk_some HGD.out HT.out HB.out
          clear hk1
          go_wp2_with fail
          go_ret
          exact ⟨ret_i64 HR.out.symm, hfr.allocr _, fun h => by rw [HR.out] at h; omega⟩
    · have hkl : k = ws.th.length := by omega
      have HI : Hid (mrk st (ws.th.map TrH.q) = -1) := mrk_none (by rw [← hkl]; exact HGD.out)
      have hpe : PlV wr b ((ws.th.map TrH.q).foldl mark1 st) ws := by rw [← stTo_all, ← hkl]; exact hpk
      clear hkl
      go_wp2_with fail
      go_ret
      exact ⟨ret_i64 HI.out.symm, hfr, fun _ => hpe⟩
end Go.Proofs.Ytmolmbeeoecnfaa
