/- Own work: PgZZ. -/
import Derived.Test.YtmolmbeeoecnfaaGreatDoorC45
import Derived.Test.YtmolmbeeoecnfaaGreatDoorC47
/- Own work: plain facts for the document's game: what Start makes. -/
namespace Go.Proofs.YtmolmbeeoecnfaaGreatDoor
open Go.RowKit Go.BigFrame
set_option linter.unusedVariables false
set_option linter.unusedSimpArgs false

theorem mk_strs (w : World) (n : Nat) (h : n ≤ 1000) : Sem.run Tryz.prog (Instr.makeSlice 55 (.int .i64 n) (.int .i64 n)) w = .ok (.slice (some ⟨w.heap.size, 0, none⟩) n n) (w.alloc (.cells ((List.replicate n (⟨#[]⟩ : ByteArray)).map Value.string).toArray 9)) := by
 obtain ⟨i, h0, h1, h2, h3⟩ := info_parts (show (Tryz.prog.info? 9).map (fun i => (i.zero, i.size, i.bytes)) = some (some (.string ⟨#[]⟩), 1, 16) by kernel_rfl)
 have hr := run_makeSlice (P := Tryz.prog) w 55 9 i (.string ⟨#[]⟩) Tryz.underlying55 h0 h1 .i64 .i64 n n (by omega) (Int.le_refl _) (by rw [h2]; omega) (by rw [h3]; omega) (by omega)
 rw [h2, Int.toNat_natCast, Nat.mul_one] at hr
 have e : madeCells (Value.string ⟨#[]⟩).cells n = ((List.replicate n (⟨#[]⟩ : ByteArray)).map Value.string).toArray := by
  apply Array.ext_getElem?
  intro k
  by_cases hk : k < n
  ·have h9 : [Value.string ⟨#[]⟩][k % 1]? = some (Value.string ⟨#[]⟩) := by rw [Nat.mod_one]; rfl
   simp [madeCells, hk, Value.cells, h9]
  ·simp [madeCells, hk]
 rw [e] at hr
 exact hr
theorem onOf_0 (n : Nat) : List.replicate n false = onOf n py0.act := by
 apply List.ext_getElem?
 intro i
 unfold onOf
 by_cases h : i < n
 ·have : mem py0.act i = false := mem_no i
  simp [h, this]
 ·simp [h]
theorem memAt_py0 (i : Nat) : memAt py0.mm i = noSet := by
 unfold memAt
 cases h : py0.mm[i]? with
 | none => rfl
 | some l =>
  have h1 := List.mem_of_getElem? h
  have h2 : py0.mm = List.replicate 26 noSet := rfl
  rw [h2] at h1
  exact (List.mem_replicate.1 h1).2
theorem meOf_0 (st : List StP) : List.replicate st.length (⟨#[]⟩ : ByteArray) = meOf st py0.mm := by
  apply List.ext_getElem?
  intro i
  by_cases h : i < st.length
  · have hm : nmT st (memAt py0.mm i) = ⟨#[]⟩ := nmT_0 (fun k hk => by
      have e : memAt py0.mm i = noSet := memAt_py0 i
      rw [e]; exact mem_no k)
    rw [meOf_at st _ h, hm]
    simp [h]
  · rw [List.getElem?_eq_none (by simp; omega), List.getElem?_eq_none (by rw [meOf_len]; omega)]

set_option maxRecDepth 100000 in
set_option maxHeartbeats 4000000 in
theorem dstart_any (w : World) (G : GC) (st : List StP) (v5 v6 : Value) (hC : Ct w G) (hD : ∀ M : GM, M.c = G → PlD M st) (h0 : 0 < st.length) :
  Calls Tryz.prog 16 #[.agg #[.slice (some ⟨G.g3, 0, none⟩) G.sts.length G.c3, .slice G.a4 G.trs.length G.c4, v5, v6]] w fun e w' => ∃ M : GM, M.c = G ∧ e = .returned (.pointer (some ⟨M.gb, 0, none⟩)) ∧ GmP w' M st (enF st 26 0 Am.free py0) ∧ (w.heap.size ≤ M.gb ∧ w.heap.size ≤ M.ob ∧ w.heap.size ≤ M.mb) ∧ (enF st 26 0 Am.free py0).out.length ≤ 5368709120 ∧ Fr (fun _ => False) w w' := by
 have HD : Hid _ := hD
 have hl3 := hC.l3
 have hm1 := fun w' => mk_bools w' G.sts.length (by omega)
 have hm2 := fun w' => mk_strs w' G.sts.length (by omega)
 clear hD
 have hlen : G.sts.length = st.length := (HD.out ⟨G, 0, 0, 0, v5, v6, 0, 0, [], []⟩ rfl).k.len
 have h26 := (HD.out ⟨G, 0, 0, 0, v5, v6, 0, 0, [], []⟩ rfl).t.wf.len
 have hcs : Array.replicate G.sts.length (Value.string ⟨#[]⟩) = ((meOf st py0.mm).map Value.string).toArray := by
  rw [← meOf_0, hlen]; simp
 have hbs : (bV (List.replicate G.sts.length false)).toArray = (bV (onOf G.sts.length py0.act)).toArray := by rw [onOf_0]
 have HCS : Hid _ := hcs
 have HBS : Hid _ := hbs
 have HL : Hid (G.sts.length = st.length) := hlen
 clear hcs hbs hlen
 have hg3 : G.g3 < w.heap.size := (hC.r3.lt G.g3 rfl).2
 have hg4 : ∀ k, (Value.slice G.a4 G.trs.length G.c4).ownBlock = some k → k < w.heap.size := fun k hk => (hC.r4.lt k hk).2
 have HC : Hid _ := hC
 clear hC
 go_enter Tryz.func16, Tryz.ntmps16
 go_wp2_with fail
 go_region
 ·go_wp2_with fail
  rw [HCS.out, HBS.out]
  obtain ⟨M, hM⟩ : ∃ M : GM, M = ⟨G, w.heap.size + 1 + 1 + 1, w.heap.size + 1, w.heap.size + 1 + 1, v5, v6, G.sts.length, G.sts.length, [], []⟩ := ⟨_, rfl⟩
  have HMC : Hid (M.c = G) := by show _ = _; rw [hM]
  have HMG : Hid (M.gb = w.heap.size + 1 + 1 + 1 ∧ M.ob = w.heap.size + 1 ∧ M.mb = w.heap.size + 1 + 1) := by show _ ∧ _; rw [hM]; exact ⟨rfl, rfl, rfl⟩
  have hfa : Fr (fun _ => False) w ((((w.alloc (.cells #[.slice (some ⟨G.g3, 0, none⟩) G.sts.length G.c3, .slice G.a4 G.trs.length G.c4, v5, v6] 48)).alloc (.cells (bV (onOf G.sts.length py0.act)).toArray 4)).alloc (.cells ((meOf st py0.mm).map Value.string).toArray 9)).alloc (.cells #[.slice (some ⟨G.g3, 0, none⟩) G.sts.length G.c3, .slice G.a4 G.trs.length G.c4, v5, v6, .slice (some ⟨w.heap.size + 1, 0, none⟩) G.sts.length G.sts.length, .slice (some ⟨w.heap.size + 1 + 1, 0, none⟩) G.sts.length G.sts.length, .string ⟨#[]⟩] 57)).drew := by (repeat (first | exact Fr.refl _ _ | assumption | refine Fr.drewNr ?_ _ | refine Fr.drewr ?_ | refine Fr.allocr ?_ _ | refine Fr.setCellr ?_ _ _ (by first | exact Or.inl rfl | (right; simp; done) | (right; simp; omega))))
  have hb1 := Blk.new' (w.alloc (.cells #[.slice (some ⟨G.g3, 0, none⟩) G.sts.length G.c3, .slice G.a4 G.trs.length G.c4, v5, v6] 48)) (bV (onOf G.sts.length py0.act)).toArray 4 (w.heap.size + 1) (by simp)
  have hb2 := Blk.new' ((w.alloc (.cells #[.slice (some ⟨G.g3, 0, none⟩) G.sts.length G.c3, .slice G.a4 G.trs.length G.c4, v5, v6] 48)).alloc (.cells (bV (onOf G.sts.length py0.act)).toArray 4)) ((meOf st py0.mm).map Value.string).toArray 9 (w.heap.size + 1 + 1) (by simp)
  have hb3 := Blk.new' (((w.alloc (.cells #[.slice (some ⟨G.g3, 0, none⟩) G.sts.length G.c3, .slice G.a4 G.trs.length G.c4, v5, v6] 48)).alloc (.cells (bV (onOf G.sts.length py0.act)).toArray 4)).alloc (.cells ((meOf st py0.mm).map Value.string).toArray 9)) #[.slice (some ⟨G.g3, 0, none⟩) G.sts.length G.c3, .slice G.a4 G.trs.length G.c4, v5, v6, .slice (some ⟨w.heap.size + 1, 0, none⟩) G.sts.length G.sts.length, .slice (some ⟨w.heap.size + 1 + 1, 0, none⟩) G.sts.length G.sts.length, .string ⟨#[]⟩] 57 (w.heap.size + 1 + 1 + 1) (by simp)
  have hc1 := Blk.fr hb1 (by (repeat (first | exact Fr.refl _ _ | assumption | refine Fr.drewNr ?_ _ | refine Fr.drewr ?_ | refine Fr.allocr ?_ _ | refine Fr.setCellr ?_ _ _ (by first | exact Or.inl rfl | (right; simp; done) | (right; simp; omega)))) : Fr (fun _ => False) _ ((((w.alloc (.cells #[.slice (some ⟨G.g3, 0, none⟩) G.sts.length G.c3, .slice G.a4 G.trs.length G.c4, v5, v6] 48)).alloc (.cells (bV (onOf G.sts.length py0.act)).toArray 4)).alloc (.cells ((meOf st py0.mm).map Value.string).toArray 9)).alloc (.cells #[.slice (some ⟨G.g3, 0, none⟩) G.sts.length G.c3, .slice G.a4 G.trs.length G.c4, v5, v6, .slice (some ⟨w.heap.size + 1, 0, none⟩) G.sts.length G.sts.length, .slice (some ⟨w.heap.size + 1 + 1, 0, none⟩) G.sts.length G.sts.length, .string ⟨#[]⟩] 57)).drew) (fun h => h)
  have hc2 := Blk.fr hb2 (by (repeat (first | exact Fr.refl _ _ | assumption | refine Fr.drewNr ?_ _ | refine Fr.drewr ?_ | refine Fr.allocr ?_ _ | refine Fr.setCellr ?_ _ _ (by first | exact Or.inl rfl | (right; simp; done) | (right; simp; omega)))) : Fr (fun _ => False) _ ((((w.alloc (.cells #[.slice (some ⟨G.g3, 0, none⟩) G.sts.length G.c3, .slice G.a4 G.trs.length G.c4, v5, v6] 48)).alloc (.cells (bV (onOf G.sts.length py0.act)).toArray 4)).alloc (.cells ((meOf st py0.mm).map Value.string).toArray 9)).alloc (.cells #[.slice (some ⟨G.g3, 0, none⟩) G.sts.length G.c3, .slice G.a4 G.trs.length G.c4, v5, v6, .slice (some ⟨w.heap.size + 1, 0, none⟩) G.sts.length G.sts.length, .slice (some ⟨w.heap.size + 1 + 1, 0, none⟩) G.sts.length G.sts.length, .string ⟨#[]⟩] 57)).drew) (fun h => h)
  have hc3 := Blk.drew hb3
  generalize ((((w.alloc (.cells #[.slice (some ⟨G.g3, 0, none⟩) G.sts.length G.c3, .slice G.a4 G.trs.length G.c4, v5, v6] 48)).alloc (.cells (bV (onOf G.sts.length py0.act)).toArray 4)).alloc (.cells ((meOf st py0.mm).map Value.string).toArray 9)).alloc (.cells #[.slice (some ⟨G.g3, 0, none⟩) G.sts.length G.c3, .slice G.a4 G.trs.length G.c4, v5, v6, .slice (some ⟨w.heap.size + 1, 0, none⟩) G.sts.length G.sts.length, .slice (some ⟨w.heap.size + 1 + 1, 0, none⟩) G.sts.length G.sts.length, .string ⟨#[]⟩] 57)).drew = W at *
  clear hb1 hb2 hb3
  have hgm : GmP W M st py0 := by
   subst hM
   exact ⟨⟨HC.out.fr0 hfa, hc3, by show Blk _ _ (bV _ ++ []).toArray _; rw [List.append_nil]; exact hc1, by show Blk _ _ (List.map _ _ ++ []).toArray _; rw [List.append_nil]; exact hc2, by simp [onOf], by rw [meOf_len]; exact HL.out.symm, by show w.heap.size + 1 + 1 + 1 ≠ w.heap.size + 1; omega, by show w.heap.size + 1 + 1 + 1 ≠ w.heap.size + 1 + 1; omega, by show w.heap.size + 1 ≠ w.heap.size + 1 + 1; omega, ⟨by show G.g3 ≠ w.heap.size + 1 + 1 + 1; omega, by show G.g3 ≠ w.heap.size + 1; omega, by show G.g3 ≠ w.heap.size + 1 + 1; omega⟩, fun k hk => by have := hg4 k hk; exact ⟨by show k ≠ w.heap.size + 1 + 1 + 1; omega, by show k ≠ w.heap.size + 1; omega, by show k ≠ w.heap.size + 1 + 1; omega⟩⟩, rfl⟩
  have hen := denter_any M st (HD.out M HMC.out) 26 W py0 0 Am.free hgm h0 (by omega) (amE_free st _ 0 h0) (memI_0 st) (by show 0 + 160 * 2 ^ 25 ≤ _; omega)
  have HAQ : Hid (aimA st py0.mm Am.free = #[.int .i64 (-1), .string ⟨#[]⟩, .string ⟨#[]⟩]) := rfl
  rw [HAQ.out, HMG.out.1] at hen
  refine Calls.mono hen ?_
  rintro e w4 ⟨rfl, hl4, hp4, hf4⟩
  have hf5 : Fr (fun _ => False) w w4 := hfa.thenr hf4 (fun k hk h => by
   have := HMG.out
   rcases h with h | h | h
   ·omega
   ·omega
   ·omega)
  have HP4 : Hid _ := hp4
  have HL4 : Hid ((enF st 26 0 Am.free py0).out.length ≤ 5368709120) := by have h9 : py0.out.length = 0 := rfl; rw [h9] at hl4; show _ ≤ _; omega
  clear hp4 hl4 hen hgm hM hc1 hc2 hc3 hf4
  go_wp2_with fail
  go_ret
  exact ⟨M, HMC.out, by rw [HMG.out.1]; rfl, HP4.out, by have := HMG.out; omega, HL4.out, hf5⟩
 ·go_wp2_with fail
  rw [HCS.out, HBS.out]
  obtain ⟨M, hM⟩ : ∃ M : GM, M = ⟨G, w.heap.size + 1 + 1 + 1, w.heap.size + 1 + 1, w.heap.size + 1, v5, v6, G.sts.length, G.sts.length, [], []⟩ := ⟨_, rfl⟩
  have HMC : Hid (M.c = G) := by show _ = _; rw [hM]
  have HMG : Hid (M.gb = w.heap.size + 1 + 1 + 1 ∧ M.ob = w.heap.size + 1 + 1 ∧ M.mb = w.heap.size + 1) := by show _ ∧ _; rw [hM]; exact ⟨rfl, rfl, rfl⟩
  have hfa : Fr (fun _ => False) w ((((w.alloc (.cells #[.slice (some ⟨G.g3, 0, none⟩) G.sts.length G.c3, .slice G.a4 G.trs.length G.c4, v5, v6] 48)).alloc (.cells ((meOf st py0.mm).map Value.string).toArray 9)).alloc (.cells (bV (onOf G.sts.length py0.act)).toArray 4)).alloc (.cells #[.slice (some ⟨G.g3, 0, none⟩) G.sts.length G.c3, .slice G.a4 G.trs.length G.c4, v5, v6, .slice (some ⟨w.heap.size + 1 + 1, 0, none⟩) G.sts.length G.sts.length, .slice (some ⟨w.heap.size + 1, 0, none⟩) G.sts.length G.sts.length, .string ⟨#[]⟩] 57)).drew := by (repeat (first | exact Fr.refl _ _ | assumption | refine Fr.drewNr ?_ _ | refine Fr.drewr ?_ | refine Fr.allocr ?_ _ | refine Fr.setCellr ?_ _ _ (by first | exact Or.inl rfl | (right; simp; done) | (right; simp; omega))))
  have hb1 := Blk.new' ((w.alloc (.cells #[.slice (some ⟨G.g3, 0, none⟩) G.sts.length G.c3, .slice G.a4 G.trs.length G.c4, v5, v6] 48)).alloc (.cells ((meOf st py0.mm).map Value.string).toArray 9)) (bV (onOf G.sts.length py0.act)).toArray 4 (w.heap.size + 1 + 1) (by simp)
  have hb2 := Blk.new' (w.alloc (.cells #[.slice (some ⟨G.g3, 0, none⟩) G.sts.length G.c3, .slice G.a4 G.trs.length G.c4, v5, v6] 48)) ((meOf st py0.mm).map Value.string).toArray 9 (w.heap.size + 1) (by simp)
  have hb3 := Blk.new' (((w.alloc (.cells #[.slice (some ⟨G.g3, 0, none⟩) G.sts.length G.c3, .slice G.a4 G.trs.length G.c4, v5, v6] 48)).alloc (.cells ((meOf st py0.mm).map Value.string).toArray 9)).alloc (.cells (bV (onOf G.sts.length py0.act)).toArray 4)) #[.slice (some ⟨G.g3, 0, none⟩) G.sts.length G.c3, .slice G.a4 G.trs.length G.c4, v5, v6, .slice (some ⟨w.heap.size + 1 + 1, 0, none⟩) G.sts.length G.sts.length, .slice (some ⟨w.heap.size + 1, 0, none⟩) G.sts.length G.sts.length, .string ⟨#[]⟩] 57 (w.heap.size + 1 + 1 + 1) (by simp)
  have hc1 := Blk.fr hb1 (by (repeat (first | exact Fr.refl _ _ | assumption | refine Fr.drewNr ?_ _ | refine Fr.drewr ?_ | refine Fr.allocr ?_ _ | refine Fr.setCellr ?_ _ _ (by first | exact Or.inl rfl | (right; simp; done) | (right; simp; omega)))) : Fr (fun _ => False) _ ((((w.alloc (.cells #[.slice (some ⟨G.g3, 0, none⟩) G.sts.length G.c3, .slice G.a4 G.trs.length G.c4, v5, v6] 48)).alloc (.cells ((meOf st py0.mm).map Value.string).toArray 9)).alloc (.cells (bV (onOf G.sts.length py0.act)).toArray 4)).alloc (.cells #[.slice (some ⟨G.g3, 0, none⟩) G.sts.length G.c3, .slice G.a4 G.trs.length G.c4, v5, v6, .slice (some ⟨w.heap.size + 1 + 1, 0, none⟩) G.sts.length G.sts.length, .slice (some ⟨w.heap.size + 1, 0, none⟩) G.sts.length G.sts.length, .string ⟨#[]⟩] 57)).drew) (fun h => h)
  have hc2 := Blk.fr hb2 (by (repeat (first | exact Fr.refl _ _ | assumption | refine Fr.drewNr ?_ _ | refine Fr.drewr ?_ | refine Fr.allocr ?_ _ | refine Fr.setCellr ?_ _ _ (by first | exact Or.inl rfl | (right; simp; done) | (right; simp; omega)))) : Fr (fun _ => False) _ ((((w.alloc (.cells #[.slice (some ⟨G.g3, 0, none⟩) G.sts.length G.c3, .slice G.a4 G.trs.length G.c4, v5, v6] 48)).alloc (.cells ((meOf st py0.mm).map Value.string).toArray 9)).alloc (.cells (bV (onOf G.sts.length py0.act)).toArray 4)).alloc (.cells #[.slice (some ⟨G.g3, 0, none⟩) G.sts.length G.c3, .slice G.a4 G.trs.length G.c4, v5, v6, .slice (some ⟨w.heap.size + 1 + 1, 0, none⟩) G.sts.length G.sts.length, .slice (some ⟨w.heap.size + 1, 0, none⟩) G.sts.length G.sts.length, .string ⟨#[]⟩] 57)).drew) (fun h => h)
  have hc3 := Blk.drew hb3
  generalize ((((w.alloc (.cells #[.slice (some ⟨G.g3, 0, none⟩) G.sts.length G.c3, .slice G.a4 G.trs.length G.c4, v5, v6] 48)).alloc (.cells ((meOf st py0.mm).map Value.string).toArray 9)).alloc (.cells (bV (onOf G.sts.length py0.act)).toArray 4)).alloc (.cells #[.slice (some ⟨G.g3, 0, none⟩) G.sts.length G.c3, .slice G.a4 G.trs.length G.c4, v5, v6, .slice (some ⟨w.heap.size + 1 + 1, 0, none⟩) G.sts.length G.sts.length, .slice (some ⟨w.heap.size + 1, 0, none⟩) G.sts.length G.sts.length, .string ⟨#[]⟩] 57)).drew = W at *
  clear hb1 hb2 hb3
  have hgm : GmP W M st py0 := by
   subst hM
   exact ⟨⟨HC.out.fr0 hfa, hc3, by show Blk _ _ (bV _ ++ []).toArray _; rw [List.append_nil]; exact hc1, by show Blk _ _ (List.map _ _ ++ []).toArray _; rw [List.append_nil]; exact hc2, by simp [onOf], by rw [meOf_len]; exact HL.out.symm, by show w.heap.size + 1 + 1 + 1 ≠ w.heap.size + 1 + 1; omega, by show w.heap.size + 1 + 1 + 1 ≠ w.heap.size + 1; omega, by show w.heap.size + 1 + 1 ≠ w.heap.size + 1; omega, ⟨by show G.g3 ≠ w.heap.size + 1 + 1 + 1; omega, by show G.g3 ≠ w.heap.size + 1 + 1; omega, by show G.g3 ≠ w.heap.size + 1; omega⟩, fun k hk => by have := hg4 k hk; exact ⟨by show k ≠ w.heap.size + 1 + 1 + 1; omega, by show k ≠ w.heap.size + 1 + 1; omega, by show k ≠ w.heap.size + 1; omega⟩⟩, rfl⟩
  have hen := denter_any M st (HD.out M HMC.out) 26 W py0 0 Am.free hgm h0 (by omega) (amE_free st _ 0 h0) (memI_0 st) (by show 0 + 160 * 2 ^ 25 ≤ _; omega)
  have HAQ : Hid (aimA st py0.mm Am.free = #[.int .i64 (-1), .string ⟨#[]⟩, .string ⟨#[]⟩]) := rfl
  rw [HAQ.out, HMG.out.1] at hen
  refine Calls.mono hen ?_
  rintro e w4 ⟨rfl, hl4, hp4, hf4⟩
  have hf5 : Fr (fun _ => False) w w4 := hfa.thenr hf4 (fun k hk h => by
   have := HMG.out
   rcases h with h | h | h
   ·omega
   ·omega
   ·omega)
  have HP4 : Hid _ := hp4
  have HL4 : Hid ((enF st 26 0 Am.free py0).out.length ≤ 5368709120) := by have h9 : py0.out.length = 0 := rfl; rw [h9] at hl4; show _ ≤ _; omega
  clear hp4 hl4 hen hgm hM hc1 hc2 hc3 hf4
  go_wp2_with fail
  go_ret
  exact ⟨M, HMC.out, by rw [HMG.out.1]; rfl, HP4.out, by have := HMG.out; omega, HL4.out, hf5⟩
end Go.Proofs.YtmolmbeeoecnfaaGreatDoor
