/- Own work: walks of the player: activeBelow, leftBy. -/
import Derived.Test.YtmolmbeeoecnfaaPy4
namespace Go.Proofs.Ytmolmbeeoecnfaa
open Go.RowKit Go.BigFrame
set_option linter.unusedVariables false
set_option linter.unusedSimpArgs false

def belK (act : List Bool) (o k : Nat) : List Bool := (List.range 26).map fun i => decide (o < i) && decide (i < k) && mem act i
def actB (st : List StP) (act : List Bool) (o : Nat) : List Bool := belK act o (endAt st o)
theorem belK_len (act : List Bool) (o k : Nat) : (belK act o k).length = 26 := by simp [belK]
theorem belK_0 (act : List Bool) (o : Nat) : belK act o (o + 1) = noSet := by
  apply List.ext_getElem?; intro i
  by_cases h : i < 26
  · simp only [belK, noSet, List.getElem?_map, List.getElem?_range h, Option.map_some]
    rw [List.getElem?_replicate, if_pos h]
    congr 1
    by_cases h1 : o < i
    · have : ¬ i < o + 1 := by omega
      simp [this]
    · simp [h1]
  · rw [List.getElem?_eq_none (by simp [belK]; omega), List.getElem?_eq_none (by simp [noSet]; omega)]
theorem belK_set (act : List Bool) (o k : Nat) (hk : k < 26) (ho : o < k) : (bV (belK act o k)).toArray.setIfInBounds k (.bool (mem act k)) = (bV (belK act o (k + 1))).toArray := by
  apply Array.ext_getElem?
  intro i
  rw [Array.getElem?_setIfInBounds]
  by_cases hi : i < 26
  · by_cases e : k = i
    · subst e; simp [bV, belK, hk, ho]
    · simp only [e, if_false]
      simp only [bV, belK, List.getElem?_toArray, List.getElem?_map, List.map_map, List.getElem?_range hi, Option.map_some, Function.comp]
      by_cases h2 : i < k
      · simp [h2, Nat.lt_succ_of_lt h2]
      · have : ¬ i < k + 1 := by omega
        simp [h2, this]
  · have e : ¬ k = i := by omega
    simp only [e, if_false]
    rw [Array.getElem?_eq_none (by simp [bV, belK]; omega), Array.getElem?_eq_none (by simp [bV, belK]; omega)]

set_option maxRecDepth 100000 in
set_option maxHeartbeats 1000000 in
theorem activeBelow_any (w : World) (b : Nat) (st : List StP) (ws : Ws) (p : Py) (vo : Value) (o : Nat) (hwf : Wf st) (hp : PyV w b st ws p vo) (hs : o < st.length) :
    Calls Try.prog 103 #[.pointer (some ⟨b, 0, none⟩), .int .i64 o] w fun e w' => e = .returned (setV (actB st p.act o)) ∧ Fr (fun _ => False) w w' := by
  obtain ⟨gg, cc, hv3, hcc, hgl⟩ := row_gg hp.pl (by omega)
  obtain ⟨y, hy⟩ : ∃ y, st[o]? = some y := ⟨_, List.getElem?_eq_getElem hs⟩
  have hen := hwf.en o y hy
  have hlen := hwf.len
  have HY : Hid (st[o]? = some y) := hy
  have HE : Hid _ := endAt_at hy
  have HP : Hid (PyV w b st ws p vo) := hp
  have HV : Hid (ws.v2 = .slice (some ⟨gg, 0, none⟩) st.length cc) := hv3
  have hbl := Blk.lt hp.blk
  clear hv3 hp hy
  go_enter Try.func103, Try.ntmps103
  go_wp2_with (refine wpList_newset rfl _ _ rfl _ _ rfl rfl rfl (by simp; done) ?_)
  show Code.wp _ _ _ _ ((w.alloc (.cells (bV noSet).toArray 73)).alloc (.cells (bV noSet).toArray 73))
  have b1 : Blk ((w.alloc (.cells (bV noSet).toArray 73)).alloc (.cells (bV noSet).toArray 73)) w.heap.size (bV noSet).toArray 73 := (Blk.new _ _ _).alloc _
  have b2 : Blk ((w.alloc (.cells (bV noSet).toArray 73)).alloc (.cells (bV noSet).toArray 73)) (w.heap.size + 1) (bV noSet).toArray 73 := Blk.new' _ _ _ _ (by simp)
  have hfw : Fr (fun _ => False) w ((w.alloc (.cells (bV noSet).toArray 73)).alloc (.cells (bV noSet).toArray 73)) := by (repeat (first | exact Fr.refl _ _ | assumption | refine Fr.drewNr ?_ _ | refine Fr.drewr ?_ | refine Fr.allocr ?_ _ | refine Fr.setCellr ?_ _ _ (by first | exact Or.inl rfl | (right; simp; done) | (right; simp; omega))))
  have HZ : Hid _ := belK_0 p.act o
  generalize ((w.alloc (.cells (bV noSet).toArray 73)).alloc (.cells (bV noSet).toArray 73)) = W at *
  go_loopw [6] (fun i wr => ∃ k : Nat, o < k ∧ k ≤ y.end_ ∧ i = .int .i64 k ∧ Blk wr (w.heap.size + 1) (bV (belK p.act o k)).toArray 73 ∧ Fr (· = w.heap.size + 1) W wr) (fun i _ => y.end_ - (intOf i).toNat)
  case atStart => exact ⟨o + 1, by omega, by omega, by go_num, by rw [HZ.out]; exact b2, Fr.refl _ _⟩
  case round =>
    obtain ⟨k, hok, hk, rfl, hbk, hfr⟩ := hrel
    have hfo : Fr (fun _ => False) w wr := hfw.trans hfr (fun _ _ h => h) (fun i hi e => by omega)
    have hpr := HP.out.fr0 hfo
    have hr := hpr.pl.r2
    rw [HV.out] at hr
    obtain ⟨-, -, -, -, -, y5, -⟩ := st10 hr HY.out
    have c0 := hpr.c0
    rw [HV.out] at c0
    by_cases hlt : (k : Int) < y.end_
    · have ca := hpr.ca k (by omega)
      have z1 := Blk.frozen hbk k
      have f1 : ∃ v, wr.cell? ⟨w.heap.size + 1, k, none⟩ = some v := ⟨_, mem_cell hbk (by rw [belK_len]; omega)⟩
      obtain ⟨v, f1⟩ := f1
      have HX : Hid (Blk (wr.setCell ⟨w.heap.size + 1, k, none⟩ (.bool (mem p.act k))) (w.heap.size + 1) (bV (belK p.act o (k + 1))).toArray 73) := by
        show Blk _ _ _ _; rw [← belK_set p.act o k (by omega) hok]; exact Blk.set hbk k _
      clear hr hpr
      go_wp2_with fail
      go_roundw
      case rel => exact ⟨k + 1, by omega, by omega, by go_num, HX.out, hfr.setCellr _ _ (Or.inl rfl)⟩
      case measure => simp [intOf]; omega
    · have hke : k = y.end_ := by omega
      have HA : Hid (belK p.act o k = actB st p.act o) := by show _ = _; rw [actB, HE.out, hke]
      rw [HA.out] at hbk
      have hal : (actB st p.act o).length = 26 := belK_len _ _ _
      obtain ⟨m, hm⟩ : ∃ m, actB st p.act o = m := ⟨_, rfl⟩
      have HM : Hid _ := hm
      rw [hm] at hbk hal
      clear hm HA
      have hb3 := Blk.fr b1 hfr (by omega)
      have hra := rangeB hbk
      have hin := setInfo hal
      have hin' := setInfo' hal
      have hone := one_bV m
      have hth : wr.there w.heap.size 0 (bV m).toArray.size := there_of hb3 0 (by simp [bV, noSet, hal])
      clear hr hpr
      go_wp2_with (first | (refine wpList_load_mid rfl 73 _ rfl _ _ rfl _ _ (by assumption) Try.underlying73 rfl (by assumption) ?_) | (refine wpList_store_mid rfl 73 _ _ rfl _ _ _ rfl rfl (by assumption) (by assumption) (by assumption) ?_))
      have hbz : Blk (wr.setCells w.heap.size 0 (bV m)) w.heap.size (bV m).toArray 73 := by
        rw [← setsA_all (bV noSet).toArray (bV m) (by simp [bV, noSet, hal])]; exact Blk.sets _ 0 hb3
      refine bodyPost_ret (v := setV m) (ret_setC rfl rfl hbz hal) rfl ⟨by rw [HM.out], ?_⟩
      exact Fr.setsr (Or.inr (by omega)) _ 0 hfo
end Go.Proofs.Ytmolmbeeoecnfaa
