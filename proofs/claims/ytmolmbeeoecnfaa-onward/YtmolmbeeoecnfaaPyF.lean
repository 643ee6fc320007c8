/- Own work: walks of the player: remember. -/
import Derived.Test.YtmolmbeeoecnfaaPyE
import Derived.Deep.RegionHeld3
namespace Go.Proofs.Ytmolmbeeoecnfaa
open Go.RowKit Go.BigFrame
set_option linter.unusedVariables false
set_option linter.unusedSimpArgs false

theorem EvY.sets {b : Nat} {vo vo' : Value} {w w' : World} (h : EvY b vo vo' w w') (o : Nat) (vs : List Value) : EvY b vo vo' w (w'.setCells b o vs) := h.trans ⟨Fr.setsr (S := OwnY b vo') (Or.inl (Or.inl rfl)) _ _ (Fr.refl _ _), fun _ _ h => h⟩
theorem inAm_in {st : List StP} (hw : Wf st) {s : Nat} {x : StP} (hx : st[s]? = some x) (hk : x.kind ≠ 0) (l : List Bool) : inAm st s l < 26 := by
  have h3 := hw.en s x hx
  have h4 := hw.inn s x hx hk
  have h5 := hw.len
  unfold inAm
  rcases firstB_spec (inA st s l) (endAt st s) with ⟨h1, -⟩ | ⟨k, h1, h2, -⟩
  · rw [h1]; show s + 1 < 26; omega
  · rw [h1]
    rw [endAt_at hx] at h2
    show k < 26
    omega
theorem rangeFr {w w' : World} {b o : Nat} {cs : List Value} {S : Nat → Prop} (h : w.rangeAt b o cs) (f : Fr S w w') (hb : b < w.heap.size) (hS : ¬ S b) : w'.rangeAt b o cs := fun j v hv => by
  rw [World.cell?_of_block (a := ⟨b, o + j, none⟩) (f.block b hb hS)]; exact h j v hv

set_option maxRecDepth 100000 in
set_option maxHeartbeats 1000000 in
theorem remember_any (w : World) (b : Nat) (st : List StP) (ws : Ws) (p : Py) (vo : Value) (left : List Bool) (hwf : Wf st) (hp : PyV w b st ws p vo) (hl : left.length = 26) (hs0 : 0 < st.length) (hrm : ∀ (k : Nat) (x : StP), st[k]? = some x → x.rem = true → x.kind ≠ 0) :
    Calls Try.prog 78 #[.pointer (some ⟨b, 0, none⟩), setV left] w fun e w' => e = .returned (.tuple #[]) ∧ PyV w' b st ws (rmF st left st.length p) vo ∧ EvY b vo vo w w' := by
  unfold setV
  obtain ⟨gg, cc, hv3, hcc, hgl⟩ := row_gg hp.pl hs0
  have hlen := hwf.len
  have hbl := Blk.lt hp.blk
  have hB0 := Blk.new w (bV left).toArray 73
  have hp0 := hp.fr0 (Fr.alloc (fun _ => False) w (.cells (bV left).toArray 73))
  have he0 := (EvY.refl b vo w).alloc (.cells (bV left).toArray 73)
  have HNY : Hid (¬ OwnY b vo w.heap.size) := by
    rintro (h | h)
    · omega
    · have := (hp.roB _ h).2; omega
  have c0 := hp.c0
  rw [hv3] at c0
  have HV : Hid (ws.v2 = .slice (some ⟨gg, 0, none⟩) st.length cc) := hv3
  have HL : Hid (left.length = 26) := hl
  have HWF : Hid (Wf st) := hwf
  obtain ⟨a3, k3, e3⟩ : ∃ a k, ws.v3 = .slice a ws.th.length k := row_len hp.pl.r3
  have HV3 : Hid (ws.v3 = .slice a3 ws.th.length k3) := e3
  have HVO : Hid (∀ kk, vo.ownBlock = some kk → kk < w.heap.size) := fun kk h => (hp.roB kk h).2
  have HRM : Hid (∀ (k : Nat) (x : StP), st[k]? = some x → x.rem = true → x.kind ≠ 0) := hrm
  clear hp hv3 hl hwf e3 hrm
  go_enter Try.func78, Try.ntmps78
  go_wp2_with fail
  have HP0 : Hid (PyV _ b st ws p vo) := hp0
  have HE0 : Hid (EvY b vo vo w _) := he0
  have HB0 : Hid (Blk _ w.heap.size (bV left).toArray 73) := hB0
  clear c0 hp0 he0 hB0
  go_loopg [14] (st.length + 1) (fun g vi wr => ∃ k : Nat, k ≤ st.length ∧ vi = .int .i64 k ∧ PyV wr b st ws (rmF st left k p) vo ∧ EvY b vo vo w wr ∧ Blk wr w.heap.size (bV left).toArray 73 ∧ st.length + 1 - k ≤ g)
  case atStart => exact ⟨0, Nat.zero_le _, rfl, HP0.out, HE0.out, HB0.out, Nat.le_refl _⟩
  case round =>
    obtain ⟨k, hk, rfl, hpq, heq, hBq, hg⟩ := hrel
    have hBl := Blk.lt hBq
    by_cases hlt : (k : Int) < st.length
    · obtain ⟨x, hx⟩ : ∃ x, st[k]? = some x := ⟨_, List.getElem?_eq_getElem (by omega)⟩
      have hr := hpq.pl.r2
      rw [HV.out] at hr
      obtain ⟨x0, x1, x2, x3, x4, x5, x6, x7, x8, x9⟩ := st10 hr hx
      have hggl : gg < wr.heap.size := (hr.lt gg rfl).2
      have cl := mem_cell (k := k) hBq (by rw [HL.out]; omega)
      have hk26 : (k : Int) < 26 := by omega
      have HX : Hid (st[k]? = some x) := hx
      have HS : Hid (rmF st left (k + 1) p = rmS st left k (rmF st left k p)) := rfl
      generalize rmF st left k p = q at *
      clear hr hx
      cases hm : mem left k with
      | false =>
        have HR : Hid (rmF st left (k + 1) p = q) := by show _ = _; rw [HS.out, rmS, HX.out]; simp only; rw [if_neg (by simp [hm])]
        rw [hm] at cl
        clear HS
        go_wp2_with fail
        go_roundg (st.length + 1 - (k + 1))
        case measure => omega
        case rel => exact ⟨k + 1, by omega, by go_num, by rw [HR.out]; exact hpq.fr0 (Fr.alloc _ _ _), heq.alloc _, Blk.alloc hBq _, Nat.le_refl _⟩
      | true =>
        cases hrm : x.rem with
        | false =>
          have HR : Hid (rmF st left (k + 1) p = q) := by show _ = _; rw [HS.out, rmS, HX.out]; simp only; rw [if_neg (by simp [hrm])]
          rw [hm] at cl
          rw [hrm] at x8
          clear HS
          go_wp2_with fail
          go_roundg (st.length + 1 - (k + 1))
          case measure => omega
          case rel => exact ⟨k + 1, by omega, by go_num, by rw [HR.out]; exact hpq.fr0 (Fr.alloc _ _ _), heq.alloc _, Blk.alloc hBq _, Nat.le_refl _⟩
        | true =>
          have HR : Hid (rmF st left (k + 1) p = { q with mm := q.mm.set k (rmM st x.wh q.act k) }) := by show _ = _; rw [HS.out, rmS, HX.out]; simp only; rw [if_pos ⟨hm, hrm⟩]
          rw [hm] at cl
          rw [hrm] at x8
          clear HS
          cases hwh : x.wh with
          | true =>
            have HR2 : Hid (rmF st left (k + 1) p = { q with mm := q.mm.set k (actB st q.act k) }) := by show _ = _; rw [HR.out, rmM, if_pos hwh]
            rw [hwh] at x9
            clear HR
            go_wp2_with fail
            refine (activeBelow_any _ b st ws q vo k HWF.out (hpq.fr0 (Fr.alloc _ _ _)) (by omega)).mono ?_
            rintro e w2 ⟨rfl, hf2⟩
            have hml : (actB st q.act k).length = 26 := belK_len _ _ _
            obtain ⟨m, hm2⟩ : ∃ m, actB st q.act k = m := ⟨_, rfl⟩
            have HM : Hid (actB st q.act k = m) := hm2
            rw [hm2] at hml ⊢
            clear hm2
            unfold setV
            have hpq2 := hpq.fr0 ((Fr.alloc (fun _ => False) _ _).thenr hf2 (fun _ _ h => h))
            have heq2 := (heq.alloc _).then0 hf2
            have hBq2 := Blk.fr (Blk.alloc hBq _) hf2 (fun h => h)
            have hSb := Blk.fr (Blk.new wr #[Value.int IntKind.u8 x.name.toNat, Value.int IntKind.i64 x.place, Value.int IntKind.i64 x.depth, Value.int IntKind.i64 x.kind, Value.int IntKind.i64 x.outer, Value.int IntKind.i64 x.end_, Value.string x.enter, Value.string x.leave, Value.bool true, Value.bool true] 126) hf2 (fun h => h)
            have hbl2 := Blk.lt hpq2.blk
            have hSl := Blk.lt hSb
            have hBl2 := Blk.lt hBq2
            have hthL : (w2.alloc (.cells (#[.bool false, .bool false, .bool false, .bool false, .bool false, .bool false, .bool false, .bool false, .bool false, .bool false, .bool false, .bool false, .bool false, .bool false, .bool false, .bool false, .bool false, .bool false, .bool false, .bool false, .bool false, .bool false, .bool false, .bool false, .bool false, .bool false] : Array Value) 73)).there w2.heap.size 0 (bV m).toArray.size := there_of (Blk.new _ _ _) 0 (by simp [bV, hml])
            have hbL : Blk ((w2.alloc (.cells (#[.bool false, .bool false, .bool false, .bool false, .bool false, .bool false, .bool false, .bool false, .bool false, .bool false, .bool false, .bool false, .bool false, .bool false, .bool false, .bool false, .bool false, .bool false, .bool false, .bool false, .bool false, .bool false, .bool false, .bool false, .bool false, .bool false] : Array Value) 73)).setCells w2.heap.size 0 (bV m)) w2.heap.size (bV m).toArray 73 := by
              rw [← setsA_all (#[.bool false, .bool false, .bool false, .bool false, .bool false, .bool false, .bool false, .bool false, .bool false, .bool false, .bool false, .bool false, .bool false, .bool false, .bool false, .bool false, .bool false, .bool false, .bool false, .bool false, .bool false, .bool false, .bool false, .bool false, .bool false, .bool false] : Array Value) (bV m) (by simp [bV, hml])]; exact Blk.sets _ 0 (Blk.new _ _ _)
            have hfL : Fr (fun _ => False) w2 ((w2.alloc (.cells (#[.bool false, .bool false, .bool false, .bool false, .bool false, .bool false, .bool false, .bool false, .bool false, .bool false, .bool false, .bool false, .bool false, .bool false, .bool false, .bool false, .bool false, .bool false, .bool false, .bool false, .bool false, .bool false, .bool false, .bool false, .bool false, .bool false] : Array Value) 73)).setCells w2.heap.size 0 (bV m)) := Fr.setsr (Or.inr (Nat.le_refl _)) _ 0 (by (repeat (first | exact Fr.refl _ _ | assumption | refine Fr.drewNr ?_ _ | refine Fr.drewr ?_ | refine Fr.allocr ?_ _ | refine Fr.setCellr ?_ _ _ (by first | exact Or.inl rfl | (right; simp; done) | (right; simp; omega)))))
            have hSb3 := Blk.fr hSb hfL (fun h => h)
            have s9 : ((w2.alloc (.cells (#[.bool false, .bool false, .bool false, .bool false, .bool false, .bool false, .bool false, .bool false, .bool false, .bool false, .bool false, .bool false, .bool false, .bool false, .bool false, .bool false, .bool false, .bool false, .bool false, .bool false, .bool false, .bool false, .bool false, .bool false, .bool false, .bool false] : Array Value) 73)).setCells w2.heap.size 0 (bV m)).cell? ⟨wr.heap.size, 9, none⟩ = some (.bool true) := by rw [Blk.cell hSb3]; rfl
            have inM := setInfo hml
            have inM' := setInfo' hml
            have oneM := one_bV m
            clear x0 x1 x2 x3 x4 x5 x6 x7 x8 x9 cl hpq heq hBq hf2 hSb
            go_wp2_with (first | (refine wpList_load_mid rfl 73 _ rfl _ _ rfl _ _ (by assumption) Try.underlying73 rfl (by assumption) ?_) | (refine wpList_store_mid rfl 73 _ _ rfl _ _ _ rfl rfl (by assumption) (by assumption) (by assumption) ?_))
            have hpq3 := hpq2.fr0 hfL
            have heq3 := heq2.then0 hfL
            have hBq3 := Blk.fr hBq2 hfL (fun h => h)
            generalize ((w2.alloc (.cells (#[.bool false, .bool false, .bool false, .bool false, .bool false, .bool false, .bool false, .bool false, .bool false, .bool false, .bool false, .bool false, .bool false, .bool false, .bool false, .bool false, .bool false, .bool false, .bool false, .bool false, .bool false, .bool false, .bool false, .bool false, .bool false, .bool false] : Array Value) 73)).setCells w2.heap.size 0 (bV m)) = w3 at *
            clear s9 hthL hpq2 heq2 hBq2 hfL
            have raL := rangeB hbL
            have thB : w3.there b (28 + k * 26) (bV m).toArray.size := there_of hpq3.blk (28 + k * 26) (by rw [List.size_toArray, List.size_toArray, pyC_len hpq3.ok, bV_len, hml]; omega)
            have thB' : w3.there b (28 + k * 26) 26 := by simpa [bV, hml] using thB
            have hu73 := Try.underlying73
            have oneL : ∀ v ∈ bV m, v.oneCell' = true := by intro v hv; simp only [bV, List.mem_map] at hv; obtain ⟨_, _, rfl⟩ := hv; rfl
            have lenL : (bV m).length = 26 := by rw [bV_len, hml]
            have hk0 : (0 : Int) ≤ (k : Int) := by omega
            go_region_held3 (fun w' => w'.rangeAt w2.heap.size 0 (bV m) ∧ w'.there b (28 + k * 26) 26) (go_keep_ranges) (fail)
            all_goals
              go_wp2_with fail
              go_roundg (st.length + 1 - (k + 1))
              case measure => omega
              case rel => exact ⟨k + 1, by omega, by go_num, (by rw [HR2.out, HM.out]; exact (hpq3.fr0 (Fr.drew _ _)).setMm k m (by omega) hml), (heq3.drew).sets _ _, Blk.fr hBq3.drew (Fr.setsr (S := (· = b)) (Or.inl rfl) _ _ (Fr.refl _ _)) (by omega), Nat.le_refl _⟩
          | false =>
            have HR2 : Hid (rmF st left (k + 1) p = { q with mm := q.mm.set k (noSet.set (inAm st k (actB st q.act k)) true) }) := by show _ = _; rw [HR.out, rmM, if_neg (by simp [hwh])]
            have HIN : Hid (∀ l, inAm st k l < 26) := fun l => inAm_in HWF.out HX.out (HRM.out k x HX.out hrm) l
            have heqS : Hid (w.heap.size ≤ wr.heap.size) := heq.fr.size
            rw [hwh] at x9
            clear HR
            go_wp2_with fail
            refine (activeBelow_any _ b st ws q vo k HWF.out (hpq.fr0 (Fr.alloc _ _ _)) (by omega)).mono ?_
            rintro e w2 ⟨rfl, hf2⟩
            have hml : (actB st q.act k).length = 26 := belK_len _ _ _
            obtain ⟨m, hm2⟩ : ∃ m, actB st q.act k = m := ⟨_, rfl⟩
            have HM : Hid (actB st q.act k = m) := hm2
            rw [hm2] at hml ⊢
            clear hm2
            unfold setV
            have hpq2 := hpq.fr0 ((Fr.alloc (fun _ => False) _ _).thenr hf2 (fun _ _ h => h))
            have heq2 := (heq.alloc _).then0 hf2
            have hBq2 := Blk.fr (Blk.alloc hBq _) hf2 (fun h => h)
            have hSb := Blk.fr (Blk.new wr #[Value.int IntKind.u8 x.name.toNat, Value.int IntKind.i64 x.place, Value.int IntKind.i64 x.depth, Value.int IntKind.i64 x.kind, Value.int IntKind.i64 x.outer, Value.int IntKind.i64 x.end_, Value.string x.enter, Value.string x.leave, Value.bool true, Value.bool false] 126) hf2 (fun h => h)
            have hbl2 := Blk.lt hpq2.blk
            have hSl := Blk.lt hSb
            have hBl2 := Blk.lt hBq2
            have hthL : (w2.alloc (.cells (#[.bool false, .bool false, .bool false, .bool false, .bool false, .bool false, .bool false, .bool false, .bool false, .bool false, .bool false, .bool false, .bool false, .bool false, .bool false, .bool false, .bool false, .bool false, .bool false, .bool false, .bool false, .bool false, .bool false, .bool false, .bool false, .bool false] : Array Value) 73)).there w2.heap.size 0 (bV m).toArray.size := there_of (Blk.new _ _ _) 0 (by simp [bV, hml])
            have hbL : Blk ((w2.alloc (.cells (#[.bool false, .bool false, .bool false, .bool false, .bool false, .bool false, .bool false, .bool false, .bool false, .bool false, .bool false, .bool false, .bool false, .bool false, .bool false, .bool false, .bool false, .bool false, .bool false, .bool false, .bool false, .bool false, .bool false, .bool false, .bool false, .bool false] : Array Value) 73)).setCells w2.heap.size 0 (bV m)) w2.heap.size (bV m).toArray 73 := by
              rw [← setsA_all (#[.bool false, .bool false, .bool false, .bool false, .bool false, .bool false, .bool false, .bool false, .bool false, .bool false, .bool false, .bool false, .bool false, .bool false, .bool false, .bool false, .bool false, .bool false, .bool false, .bool false, .bool false, .bool false, .bool false, .bool false, .bool false, .bool false] : Array Value) (bV m) (by simp [bV, hml])]; exact Blk.sets _ 0 (Blk.new _ _ _)
            have hfL : Fr (fun _ => False) w2 ((w2.alloc (.cells (#[.bool false, .bool false, .bool false, .bool false, .bool false, .bool false, .bool false, .bool false, .bool false, .bool false, .bool false, .bool false, .bool false, .bool false, .bool false, .bool false, .bool false, .bool false, .bool false, .bool false, .bool false, .bool false, .bool false, .bool false, .bool false, .bool false] : Array Value) 73)).setCells w2.heap.size 0 (bV m)) := Fr.setsr (Or.inr (Nat.le_refl _)) _ 0 (by (repeat (first | exact Fr.refl _ _ | assumption | refine Fr.drewNr ?_ _ | refine Fr.drewr ?_ | refine Fr.allocr ?_ _ | refine Fr.setCellr ?_ _ _ (by first | exact Or.inl rfl | (right; simp; done) | (right; simp; omega)))))
            have hSb3 := Blk.fr hSb hfL (fun h => h)
            have s9 : ((w2.alloc (.cells (#[.bool false, .bool false, .bool false, .bool false, .bool false, .bool false, .bool false, .bool false, .bool false, .bool false, .bool false, .bool false, .bool false, .bool false, .bool false, .bool false, .bool false, .bool false, .bool false, .bool false, .bool false, .bool false, .bool false, .bool false, .bool false, .bool false] : Array Value) 73)).setCells w2.heap.size 0 (bV m)).cell? ⟨wr.heap.size, 9, none⟩ = some (.bool false) := by rw [Blk.cell hSb3]; rfl
            have inM := setInfo hml
            have inM' := setInfo' hml
            have oneM := one_bV m
            clear x0 x1 x2 x3 x4 x5 x6 x7 x8 x9 cl hpq heq hBq hf2 hSb
            go_wp2_with (first | (refine wpList_load_mid rfl 73 _ rfl _ _ rfl _ _ (by assumption) Try.underlying73 rfl (by assumption) ?_) | (refine wpList_store_mid rfl 73 _ _ rfl _ _ _ rfl rfl (by assumption) (by assumption) (by assumption) ?_))
            have hpq3 := hpq2.fr0 hfL
            have heq3 := heq2.then0 hfL
            have hBq3 := Blk.fr hBq2 hfL (fun h => h)
            generalize ((w2.alloc (.cells (#[.bool false, .bool false, .bool false, .bool false, .bool false, .bool false, .bool false, .bool false, .bool false, .bool false, .bool false, .bool false, .bool false, .bool false, .bool false, .bool false, .bool false, .bool false, .bool false, .bool false, .bool false, .bool false, .bool false, .bool false, .bool false, .bool false] : Array Value) 73)).setCells w2.heap.size 0 (bV m)) = w3 at *
            clear s9 hthL hpq2 heq2 hBq2 hfL
            have HRO : Hid (∀ kk, vo.ownBlock = some kk → kk < w2.heap.size) := fun kk h => by have h1 := (HVO.out kk h); have := heqS.out; omega
            have HSZ2 : Hid (w.heap.size ≤ w2.heap.size) := by show _ ≤ _; omega
            have HIA : Hid (∀ W, PlR W st ws → Calls Try.prog 100 #[.agg #[.slice (some ⟨gg, 0, none⟩) st.length cc, .slice a3 ws.th.length k3], .int .i64 k, .agg (bV m).toArray] W fun e w' => e = .returned (.int .i64 (inAm st k m)) ∧ Fr (fun _ => False) W w') := by
              intro W hW
              have := innerAmong_any W st ws k m HWF.out hW (by omega) hml
              rw [HV.out, HV3.out] at this
              exact this
            have d0 := hpq3.c0
            have d1 := hpq3.c1
            rw [HV.out] at d0
            rw [HV3.out] at d1
            have raL := rangeB hbL
            have hu73 := Try.underlying73
            have oneL : ∀ v ∈ bV m, v.oneCell' = true := by intro v hv; simp only [bV, List.mem_map] at hv; obtain ⟨_, _, rfl⟩ := hv; rfl
            have lenL : (bV m).length = 26 := by rw [bV_len, hml]
            have HKS : Hid (∀ w4, Fr (fun _ => False) w3.drew w4 → w4.cell? ⟨b, 0, none⟩ = some (.slice (some ⟨gg, 0, none⟩) st.length cc) ∧ w4.cell? ⟨b, 1, none⟩ = some (.slice a3 ws.th.length k3) ∧ w4.rangeAt w2.heap.size 0 (bV m)) := by
              intro w4 hf
              have h1 := (hpq3.fr0 (Fr.drew _ _)).fr0 hf
              refine ⟨by rw [← HV.out]; exact h1.c0, by rw [← HV3.out]; exact h1.c1, rangeB (Blk.fr hbL.drew hf (fun h => h))⟩
            have HPL : Hid (PlR w3.drew st ws) := (hpq3.fr0 (Fr.drew _ _)).pl
            go_region_held3 (fun w' => w'.cell? ⟨b, 0, none⟩ = some (.slice (some ⟨gg, 0, none⟩) st.length cc) ∧ w'.cell? ⟨b, 1, none⟩ = some (.slice a3 ws.th.length k3) ∧ w'.rangeAt w2.heap.size 0 (bV m)) (first | assumption | go_keep_ranges) (first | (go_at_call 100; refine Calls.mono (HIA.out _ HPL.out) ?_; rintro e w4 ⟨rfl, hf4⟩; have hS4 := HKS.out w4 hf4))
            all_goals
              clear hS4 d0 d1 raL oneL lenL
              have hin26 : inAm st k m < 26 := HIN.out m
              have hpq4 := (hpq3.fr0 (Fr.drew _ _)).fr0 hf4
              have heq4 := (heq3.drew).then0 hf4
              have hBq4 := Blk.fr hBq3.drew hf4 (fun h => h)
              have hb4 := Blk.fr hbL.drew hf4 (fun h => h)
              have hbl4 := Blk.lt hpq4.blk
              have hBl4 := Blk.lt hBq4
              have hml4 := Blk.lt hb4
              have thZ : w4.there w2.heap.size 0 (bV noSet).toArray.size := there_of hb4 0 (by simp [bV, noSet, hml])
              have infZ : (Try.prog.info? 73).map (·.size) = some (bV noSet).toArray.size := setInfo' (l := noSet) rfl
              have oneZ : (bV noSet).toArray.all (·.oneCell') = true := one_bV noSet
              have HB5 : Hid (Blk (w4.setCells w2.heap.size 0 (bV noSet)) w2.heap.size (bV noSet).toArray 73) := by
                have h1 := Blk.sets (bV noSet) 0 hb4
                rw [setsA_all _ _ (by simp [bV, noSet, hml])] at h1
                exact h1
              have HF5 : Hid (Fr (· = w2.heap.size) w4 (w4.setCells w2.heap.size 0 (bV noSet))) := Fr.setsr (S := (· = w2.heap.size)) (Or.inl rfl) _ _ (Fr.refl _ _)
              go_upto_region 9 with (refine wpList_store_mid rfl 73 _ _ rfl _ _ (bV noSet).toArray rfl rfl thZ infZ oneZ ?_)
              have hb5 := HB5.out
              have hf5 := HF5.out
              clear HB5 HF5 thZ infZ oneZ
              generalize w4.setCells w2.heap.size 0 (bV noSet) = w5 at hb5 hf5 ⊢
              have z5 : w5.cell? ⟨w2.heap.size, inAm st k m, none⟩ = some (.bool (mem noSet (inAm st k m))) := mem_cell hb5 (by show _ < 26; exact hin26)
              have zz5 := Blk.frozen hb5 (inAm st k m)
              have hinI : ((inAm st k m : Nat) : Int) < 26 := by omega
              have hb6 : Blk (w5.setCell ⟨w2.heap.size, inAm st k m, none⟩ (.bool true)) w2.heap.size (bV (noSet.set (inAm st k m) true)).toArray 73 := by
                have h1 := Blk.set hb5 (inAm st k m) (.bool true)
                have h2 : (bV noSet).toArray.setIfInBounds (inAm st k m) (.bool true) = (bV (noSet.set (inAm st k m) true)).toArray := by
                  apply Array.toList_inj.1
                  rw [Array.toList_setIfInBounds]
                  simp [bV, List.map_set]
                rw [h2] at h1
                exact h1
              have hne : w2.heap.size ≠ b := by omega
              have hf6 : Fr (· = w2.heap.size) w4 (w5.setCell ⟨w2.heap.size, inAm st k m, none⟩ (.bool true)) := hf5.setCellr _ _ (Or.inl rfl)
              have HB6 : Hid (Blk (w5.setCell ⟨w2.heap.size, inAm st k m, none⟩ (.bool true)) w2.heap.size (bV (noSet.set (inAm st k m) true)).toArray 73) := hb6
              have HF6 : Hid (Fr (· = w2.heap.size) w4 (w5.setCell ⟨w2.heap.size, inAm st k m, none⟩ (.bool true))) := hf6
              clear hb5 hf5 hb6 hf6
              go_wp2_with fail
              have hb6 := HB6.out
              have hf6 := HF6.out
              clear HB6 HF6 z5 zz5
              have hmm6 : (noSet.set (inAm st k m) true).length = 26 := by simp [noSet]
              have hy26 : ∀ kk, OwnY b vo kk ∨ OwnP ws kk → ¬ kk = w2.heap.size := by
                rintro kk ((h | h) | h) e
                · omega
                · have := (HRO.out kk h); omega
                · have := hpq3.np kk h; omega
              have hpq6 := hpq4.fr hf6 hy26
              have heq6 : EvY b vo vo w (w5.setCell ⟨w2.heap.size, inAm st k m, none⟩ (.bool true)) := ⟨heq4.fr.thenr hf6 (fun i hi e => by have := heq4.fr.size; have := HSZ2.out; omega), heq4.own⟩
              have hBq6 := Blk.fr hBq4 hf6 (by omega)
              generalize hW6 : (w5.setCell ⟨w2.heap.size, inAm st k m, none⟩ (.bool true)) = w6 at *
              clear hW6
              have inM6 := setInfo hmm6
              have inM6' := setInfo' hmm6
              have oneM6 := one_bV (noSet.set (inAm st k m) true)
              have HMI : Hid (noSet.set (inAm st k (actB st q.act k)) true = noSet.set (inAm st k m) true) := by show _ = _; rw [HM.out]
              generalize noSet.set (inAm st k m) true = m6 at *
              have raL := rangeB hb6
              have thB : w6.there b (28 + k * 26) (bV m6).toArray.size := there_of hpq6.blk (28 + k * 26) (by rw [List.size_toArray, List.size_toArray, pyC_len hpq6.ok, bV_len, hmm6]; omega)
              have thB' : w6.there b (28 + k * 26) 26 := by simpa [bV, hmm6] using thB
              have hu73 := Try.underlying73
              have oneL : ∀ v ∈ bV m6, v.oneCell' = true := by intro v hv; simp only [bV, List.mem_map] at hv; obtain ⟨_, _, rfl⟩ := hv; rfl
              have lenL : (bV m6).length = 26 := by rw [bV_len, hmm6]
              have hk0 : (0 : Int) ≤ (k : Int) := by omega
              go_region_held3 (fun w' => w'.rangeAt w2.heap.size 0 (bV m6) ∧ w'.there b (28 + k * 26) 26) (go_keep_ranges) (fail)
              all_goals
                go_wp2_with fail
                go_roundg (st.length + 1 - (k + 1))
                case measure => omega
                case rel => exact ⟨k + 1, by omega, by go_num, (by rw [HR2.out, HMI.out]; exact (hpq6.fr0 (Fr.drew _ _)).setMm k m6 (by omega) hmm6), (heq6.drew).sets _ _, Blk.fr hBq6.drew (Fr.setsr (S := (· = b)) (Or.inl rfl) _ _ (Fr.refl _ _)) (by omega), Nat.le_refl _⟩
    · have hke : k = st.length := by omega
      subst hke
      go_wp2_with fail
      go_end0
      exact ⟨rfl, hpq, heq⟩
end Go.Proofs.Ytmolmbeeoecnfaa
