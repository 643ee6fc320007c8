/- Own work: PgZZ, Ph1, Ph2. -/
import Derived.Test.YtmolmbeeoecnfaaGreatDoorF49
import Derived.Test.YtmolmbeeoecnfaaGreatDoorF47
/- Own work: plain facts for the document's game: what Start makes. -/
namespace Go.Proofs.YtmolmbeeoecnfaaGreatDoor
open Go.RowKit Go.BigFrame
set_option linter.unusedVariables false
set_option linter.unusedSimpArgs false

theorem mk_strs (w : World) (n : Nat) (h : n ≤ 1000) : Sem.run Tryz.prog (Instr.makeSlice 55 (.int .i64 n) (.int .i64 n)) w = .ok (.slice (some ⟨w.heap.size, 0, none⟩) n n) (w.alloc (.cells ((List.replicate n (⟨#[]⟩ : ByteArray)).map Value.string).toArray 9)) := by
 obtain ⟨i, h0, h1, h2, h3⟩ := info_parts (show (Tryz.prog.info? 9).map (fun i => (i.zero, i.size, i.bytes)) = some (some (.string ⟨#[]⟩), 1, 16) by kernel_rfl)
 have hr := run_makeSlice (P := Tryz.prog) w 55 9 i (.string ⟨#[]⟩) Tryz.underlying55 h0 h1 .i64 .i64 n n (by omega) (Int.le_refl _) (by rw [h2]; omega) (by rw [h3]; omega) (by omega)
 rw [h2, Int.toNat_natCast, Nat.mul_one] at hr
 have e : madeCells (Value.string ⟨#[]⟩).cells n = ((List.replicate n (⟨#[]⟩ : ByteArray)).map Value.string).toArray := by
  apply Array.ext_getElem?
  intro k
  by_cases hk : k < n
  ·have h9 : [Value.string ⟨#[]⟩][k % 1]? = some (Value.string ⟨#[]⟩) := by rw [Nat.mod_one]; rfl
   simp [madeCells, hk, Value.cells, h9]
  ·simp [madeCells, hk]
 rw [e] at hr
 exact hr
theorem onOf_0 (n : Nat) : List.replicate n false = onOf n py0.act := by
 apply List.ext_getElem?
 intro i
 unfold onOf
 by_cases h : i < n
 ·have : mem py0.act i = false := mem_no i
  simp [h, this]
 ·simp [h]
theorem memAt_py0 (i : Nat) : memAt py0.mm i = noSet := by
 unfold memAt
 cases h : py0.mm[i]? with
 | none => rfl
 | some l =>
  have h1 := List.mem_of_getElem? h
  have h2 : py0.mm = List.replicate 26 noSet := rfl
  rw [h2] at h1
  exact (List.mem_replicate.1 h1).2
theorem meOf_0 (st : List StP) : List.replicate st.length (⟨#[]⟩ : ByteArray) = meOf st py0.mm := by
  apply List.ext_getElem?
  intro i
  by_cases h : i < st.length
  · have hm : nmT st (memAt py0.mm i) = ⟨#[]⟩ := nmT_0 (fun k hk => by
      have e : memAt py0.mm i = noSet := memAt_py0 i
      rw [e]; exact mem_no k)
    rw [meOf_at st _ h, hm]
    simp [h]
  · rw [List.getElem?_eq_none (by simp; omega), List.getElem?_eq_none (by rw [meOf_len]; omega)]

set_option maxRecDepth 100000 in
set_option maxHeartbeats 4000000 in
theorem dstart_any (w : World) (G : GC) (st : List StP) (v5 v6 : Value) (hC : Ct w G) (hD : ∀ M : GM, M.c = G → PlD M st) (h0 : 0 < st.length) :
  Calls Tryz.prog 16 #[.agg #[.slice (some ⟨G.g3, 0, none⟩) G.sts.length G.c3, .slice G.a4 G.trs.length G.c4, v5, v6]] w fun e w' => ∃ M : GM, M.c = G ∧ e = .returned (.pointer (some ⟨M.gb, 0, none⟩)) ∧ GmP w' M st (enF st 26 0 Am.free py0) ∧ (w.heap.size ≤ M.gb ∧ w.heap.size ≤ M.ob ∧ w.heap.size ≤ M.mb) ∧ (enF st 26 0 Am.free py0).out.length ≤ 5368709120 ∧ Fr (fun _ => False) w w' := by
 have HD : Hid _ := hD
 have hl3 := hC.l3
 have hm1 := fun w' => mk_bools w' G.sts.length (by omega)
 have hm2 := fun w' => mk_strs w' G.sts.length (by omega)
 clear hD
 have hlen : G.sts.length = st.length := (HD.out ⟨G, 0, 0, 0, v5, v6, 0, 0, [], []⟩ rfl).k.len
 have h26 := (HD.out ⟨G, 0, 0, 0, v5, v6, 0, 0, [], []⟩ rfl).t.wf.len
 have hcs : Array.replicate G.sts.length (Value.string ⟨#[]⟩) = ((meOf st py0.mm).map Value.string).toArray := by
  rw [← meOf_0, hlen]; simp
 have hbs : (bV (List.replicate G.sts.length false)).toArray = (bV (onOf G.sts.length py0.act)).toArray := by rw [onOf_0]
 have HCS : Hid _ := hcs
 have HBS : Hid _ := hbs
 have HL : Hid (G.sts.length = st.length) := hlen
 clear hcs hbs hlen
 have hg3 : G.g3 < w.heap.size := (hC.r3.lt G.g3 rfl).2
 have hg4 : ∀ k, (Value.slice G.a4 G.trs.length G.c4).ownBlock = some k → k < w.heap.size := fun k hk => (hC.r4.lt k hk).2
 have HC : Hid _ := hC
 clear hC
 go_enter Tryz.func16, Tryz.ntmps16
 go_wp2_with fail
 go_region
 ·go_wp2_with fail
  rw [HCS.out, HBS.out]
  obtain ⟨M, hM⟩ : ∃ M : GM, M = ⟨G, w.heap.size + 1 + 1 + 1, w.heap.size + 1, w.heap.size + 1 + 1, v5, v6, G.sts.length, G.sts.length, [], []⟩ := ⟨_, rfl⟩
  have HMC : Hid (M.c = G) := by show _ = _; rw [hM]
  have HMG : Hid (M.gb = w.heap.size + 1 + 1 + 1 ∧ M.ob = w.heap.size + 1 ∧ M.mb = w.heap.size + 1 + 1) := by show _ ∧ _; rw [hM]; exact ⟨rfl, rfl, rfl⟩
  have hfa : Fr (fun _ => False) w ((((w.alloc (.cells #[.slice (some ⟨G.g3, 0, none⟩) G.sts.length G.c3, .slice G.a4 G.trs.length G.c4, v5, v6] 48)).alloc (.cells (bV (onOf G.sts.length py0.act)).toArray 4)).alloc (.cells ((meOf st py0.mm).map Value.string).toArray 9)).alloc (.cells #[.slice (some ⟨G.g3, 0, none⟩) G.sts.length G.c3, .slice G.a4 G.trs.length G.c4, v5, v6, .slice (some ⟨w.heap.size + 1, 0, none⟩) G.sts.length G.sts.length, .slice (some ⟨w.heap.size + 1 + 1, 0, none⟩) G.sts.length G.sts.length, .string ⟨#[]⟩] 57)).drew := by (repeat (first | exact Fr.refl _ _ | assumption | refine Fr.drewNr ?_ _ | refine Fr.drewr ?_ | refine Fr.allocr ?_ _ | refine Fr.setCellr ?_ _ _ (by first | exact Or.inl rfl | (right; simp; done) | (right; simp; omega))))
  have hb1 := Blk.new' (w.alloc (.cells #[.slice (some ⟨G.g3, 0, none⟩) G.sts.length G.c3, .slice G.a4 G.trs.length G.c4, v5, v6] 48)) (bV (onOf G.sts.length py0.act)).toArray 4 (w.heap.size + 1) (by simp)
  have hb2 := Blk.new' ((w.alloc (.cells #[.slice (some ⟨G.g3, 0, none⟩) G.sts.length G.c3, .slice G.a4 G.trs.length G.c4, v5, v6] 48)).alloc (.cells (bV (onOf G.sts.length py0.act)).toArray 4)) ((meOf st py0.mm).map Value.string).toArray 9 (w.heap.size + 1 + 1) (by simp)
  have hb3 := Blk.new' (((w.alloc (.cells #[.slice (some ⟨G.g3, 0, none⟩) G.sts.length G.c3, .slice G.a4 G.trs.length G.c4, v5, v6] 48)).alloc (.cells (bV (onOf G.sts.length py0.act)).toArray 4)).alloc (.cells ((meOf st py0.mm).map Value.string).toArray 9)) #[.slice (some ⟨G.g3, 0, none⟩) G.sts.length G.c3, .slice G.a4 G.trs.length G.c4, v5, v6, .slice (some ⟨w.heap.size + 1, 0, none⟩) G.sts.length G.sts.length, .slice (some ⟨w.heap.size + 1 + 1, 0, none⟩) G.sts.length G.sts.length, .string ⟨#[]⟩] 57 (w.heap.size + 1 + 1 + 1) (by simp)
  have hc1 := Blk.fr hb1 (by (repeat (first | exact Fr.refl _ _ | assumption | refine Fr.drewNr ?_ _ | refine Fr.drewr ?_ | refine Fr.allocr ?_ _ | refine Fr.setCellr ?_ _ _ (by first | exact Or.inl rfl | (right; simp; done) | (right; simp; omega)))) : Fr (fun _ => False) _ ((((w.alloc (.cells #[.slice (some ⟨G.g3, 0, none⟩) G.sts.length G.c3, .slice G.a4 G.trs.length G.c4, v5, v6] 48)).alloc (.cells (bV (onOf G.sts.length py0.act)).toArray 4)).alloc (.cells ((meOf st py0.mm).map Value.string).toArray 9)).alloc (.cells #[.slice (some ⟨G.g3, 0, none⟩) G.sts.length G.c3, .slice G.a4 G.trs.length G.c4, v5, v6, .slice (some ⟨w.heap.size + 1, 0, none⟩) G.sts.length G.sts.length, .slice (some ⟨w.heap.size + 1 + 1, 0, none⟩) G.sts.length G.sts.length, .string ⟨#[]⟩] 57)).drew) (fun h => h)
  have hc2 := Blk.fr hb2 (by (repeat (first | exact Fr.refl _ _ | assumption | refine Fr.drewNr ?_ _ | refine Fr.drewr ?_ | refine Fr.allocr ?_ _ | refine Fr.setCellr ?_ _ _ (by first | exact Or.inl rfl | (right; simp; done) | (right; simp; omega)))) : Fr (fun _ => False) _ ((((w.alloc (.cells #[.slice (some ⟨G.g3, 0, none⟩) G.sts.length G.c3, .slice G.a4 G.trs.length G.c4, v5, v6] 48)).alloc (.cells (bV (onOf G.sts.length py0.act)).toArray 4)).alloc (.cells ((meOf st py0.mm).map Value.string).toArray 9)).alloc (.cells #[.slice (some ⟨G.g3, 0, none⟩) G.sts.length G.c3, .slice G.a4 G.trs.length G.c4, v5, v6, .slice (some ⟨w.heap.size + 1, 0, none⟩) G.sts.length G.sts.length, .slice (some ⟨w.heap.size + 1 + 1, 0, none⟩) G.sts.length G.sts.length, .string ⟨#[]⟩] 57)).drew) (fun h => h)
  have hc3 := Blk.drew hb3
  generalize ((((w.alloc (.cells #[.slice (some ⟨G.g3, 0, none⟩) G.sts.length G.c3, .slice G.a4 G.trs.length G.c4, v5, v6] 48)).alloc (.cells (bV (onOf G.sts.length py0.act)).toArray 4)).alloc (.cells ((meOf st py0.mm).map Value.string).toArray 9)).alloc (.cells #[.slice (some ⟨G.g3, 0, none⟩) G.sts.length G.c3, .slice G.a4 G.trs.length G.c4, v5, v6, .slice (some ⟨w.heap.size + 1, 0, none⟩) G.sts.length G.sts.length, .slice (some ⟨w.heap.size + 1 + 1, 0, none⟩) G.sts.length G.sts.length, .string ⟨#[]⟩] 57)).drew = W at *
  clear hb1 hb2 hb3
  have hgm : GmP W M st py0 := by
   subst hM
   exact ⟨⟨HC.out.fr0 hfa, hc3, by show Blk _ _ (bV _ ++ []).toArray _; rw [List.append_nil]; exact hc1, by show Blk _ _ (List.map _ _ ++ []).toArray _; rw [List.append_nil]; exact hc2, by simp [onOf], by rw [meOf_len]; exact HL.out.symm, by show w.heap.size + 1 + 1 + 1 ≠ w.heap.size + 1; omega, by show w.heap.size + 1 + 1 + 1 ≠ w.heap.size + 1 + 1; omega, by show w.heap.size + 1 ≠ w.heap.size + 1 + 1; omega, ⟨by show G.g3 ≠ w.heap.size + 1 + 1 + 1; omega, by show G.g3 ≠ w.heap.size + 1; omega, by show G.g3 ≠ w.heap.size + 1 + 1; omega⟩, fun k hk => by have := hg4 k hk; exact ⟨by show k ≠ w.heap.size + 1 + 1 + 1; omega, by show k ≠ w.heap.size + 1; omega, by show k ≠ w.heap.size + 1 + 1; omega⟩⟩, rfl⟩
  have hen := denter_any M st (HD.out M HMC.out) 26 W py0 0 Am.free hgm h0 (by omega) (amE_free st _ 0 h0) (memI_0 st) (by show 0 + 160 * 2 ^ 25 ≤ _; omega)
  have HAQ : Hid (aimA st py0.mm Am.free = #[.int .i64 (-1), .string ⟨#[]⟩, .string ⟨#[]⟩]) := rfl
  rw [HAQ.out, HMG.out.1] at hen
  refine Calls.mono hen ?_
  rintro e w4 ⟨rfl, hl4, hp4, hf4⟩
  have hf5 : Fr (fun _ => False) w w4 := hfa.thenr hf4 (fun k hk h => by
   have := HMG.out
   rcases h with h | h | h
   ·omega
   ·omega
   ·omega)
  have HP4 : Hid _ := hp4
  have HL4 : Hid ((enF st 26 0 Am.free py0).out.length ≤ 5368709120) := by have h9 : py0.out.length = 0 := rfl; rw [h9] at hl4; show _ ≤ _; omega
  clear hp4 hl4 hen hgm hM hc1 hc2 hc3 hf4
  go_wp2_with fail
  go_ret
  exact ⟨M, HMC.out, by rw [HMG.out.1]; rfl, HP4.out, by have := HMG.out; omega, HL4.out, hf5⟩
 ·go_wp2_with fail
  rw [HCS.out, HBS.out]
  obtain ⟨M, hM⟩ : ∃ M : GM, M = ⟨G, w.heap.size + 1 + 1 + 1, w.heap.size + 1 + 1, w.heap.size + 1, v5, v6, G.sts.length, G.sts.length, [], []⟩ := ⟨_, rfl⟩
  have HMC : Hid (M.c = G) := by show _ = _; rw [hM]
  have HMG : Hid (M.gb = w.heap.size + 1 + 1 + 1 ∧ M.ob = w.heap.size + 1 + 1 ∧ M.mb = w.heap.size + 1) := by show _ ∧ _; rw [hM]; exact ⟨rfl, rfl, rfl⟩
  have hfa : Fr (fun _ => False) w ((((w.alloc (.cells #[.slice (some ⟨G.g3, 0, none⟩) G.sts.length G.c3, .slice G.a4 G.trs.length G.c4, v5, v6] 48)).alloc (.cells ((meOf st py0.mm).map Value.string).toArray 9)).alloc (.cells (bV (onOf G.sts.length py0.act)).toArray 4)).alloc (.cells #[.slice (some ⟨G.g3, 0, none⟩) G.sts.length G.c3, .slice G.a4 G.trs.length G.c4, v5, v6, .slice (some ⟨w.heap.size + 1 + 1, 0, none⟩) G.sts.length G.sts.length, .slice (some ⟨w.heap.size + 1, 0, none⟩) G.sts.length G.sts.length, .string ⟨#[]⟩] 57)).drew := by (repeat (first | exact Fr.refl _ _ | assumption | refine Fr.drewNr ?_ _ | refine Fr.drewr ?_ | refine Fr.allocr ?_ _ | refine Fr.setCellr ?_ _ _ (by first | exact Or.inl rfl | (right; simp; done) | (right; simp; omega))))
  have hb1 := Blk.new' ((w.alloc (.cells #[.slice (some ⟨G.g3, 0, none⟩) G.sts.length G.c3, .slice G.a4 G.trs.length G.c4, v5, v6] 48)).alloc (.cells ((meOf st py0.mm).map Value.string).toArray 9)) (bV (onOf G.sts.length py0.act)).toArray 4 (w.heap.size + 1 + 1) (by simp)
  have hb2 := Blk.new' (w.alloc (.cells #[.slice (some ⟨G.g3, 0, none⟩) G.sts.length G.c3, .slice G.a4 G.trs.length G.c4, v5, v6] 48)) ((meOf st py0.mm).map Value.string).toArray 9 (w.heap.size + 1) (by simp)
  have hb3 := Blk.new' (((w.alloc (.cells #[.slice (some ⟨G.g3, 0, none⟩) G.sts.length G.c3, .slice G.a4 G.trs.length G.c4, v5, v6] 48)).alloc (.cells ((meOf st py0.mm).map Value.string).toArray 9)).alloc (.cells (bV (onOf G.sts.length py0.act)).toArray 4)) #[.slice (some ⟨G.g3, 0, none⟩) G.sts.length G.c3, .slice G.a4 G.trs.length G.c4, v5, v6, .slice (some ⟨w.heap.size + 1 + 1, 0, none⟩) G.sts.length G.sts.length, .slice (some ⟨w.heap.size + 1, 0, none⟩) G.sts.length G.sts.length, .string ⟨#[]⟩] 57 (w.heap.size + 1 + 1 + 1) (by simp)
  have hc1 := Blk.fr hb1 (by (repeat (first | exact Fr.refl _ _ | assumption | refine Fr.drewNr ?_ _ | refine Fr.drewr ?_ | refine Fr.allocr ?_ _ | refine Fr.setCellr ?_ _ _ (by first | exact Or.inl rfl | (right; simp; done) | (right; simp; omega)))) : Fr (fun _ => False) _ ((((w.alloc (.cells #[.slice (some ⟨G.g3, 0, none⟩) G.sts.length G.c3, .slice G.a4 G.trs.length G.c4, v5, v6] 48)).alloc (.cells ((meOf st py0.mm).map Value.string).toArray 9)).alloc (.cells (bV (onOf G.sts.length py0.act)).toArray 4)).alloc (.cells #[.slice (some ⟨G.g3, 0, none⟩) G.sts.length G.c3, .slice G.a4 G.trs.length G.c4, v5, v6, .slice (some ⟨w.heap.size + 1 + 1, 0, none⟩) G.sts.length G.sts.length, .slice (some ⟨w.heap.size + 1, 0, none⟩) G.sts.length G.sts.length, .string ⟨#[]⟩] 57)).drew) (fun h => h)
  have hc2 := Blk.fr hb2 (by (repeat (first | exact Fr.refl _ _ | assumption | refine Fr.drewNr ?_ _ | refine Fr.drewr ?_ | refine Fr.allocr ?_ _ | refine Fr.setCellr ?_ _ _ (by first | exact Or.inl rfl | (right; simp; done) | (right; simp; omega)))) : Fr (fun _ => False) _ ((((w.alloc (.cells #[.slice (some ⟨G.g3, 0, none⟩) G.sts.length G.c3, .slice G.a4 G.trs.length G.c4, v5, v6] 48)).alloc (.cells ((meOf st py0.mm).map Value.string).toArray 9)).alloc (.cells (bV (onOf G.sts.length py0.act)).toArray 4)).alloc (.cells #[.slice (some ⟨G.g3, 0, none⟩) G.sts.length G.c3, .slice G.a4 G.trs.length G.c4, v5, v6, .slice (some ⟨w.heap.size + 1 + 1, 0, none⟩) G.sts.length G.sts.length, .slice (some ⟨w.heap.size + 1, 0, none⟩) G.sts.length G.sts.length, .string ⟨#[]⟩] 57)).drew) (fun h => h)
  have hc3 := Blk.drew hb3
  generalize ((((w.alloc (.cells #[.slice (some ⟨G.g3, 0, none⟩) G.sts.length G.c3, .slice G.a4 G.trs.length G.c4, v5, v6] 48)).alloc (.cells ((meOf st py0.mm).map Value.string).toArray 9)).alloc (.cells (bV (onOf G.sts.length py0.act)).toArray 4)).alloc (.cells #[.slice (some ⟨G.g3, 0, none⟩) G.sts.length G.c3, .slice G.a4 G.trs.length G.c4, v5, v6, .slice (some ⟨w.heap.size + 1 + 1, 0, none⟩) G.sts.length G.sts.length, .slice (some ⟨w.heap.size + 1, 0, none⟩) G.sts.length G.sts.length, .string ⟨#[]⟩] 57)).drew = W at *
  clear hb1 hb2 hb3
  have hgm : GmP W M st py0 := by
   subst hM
   exact ⟨⟨HC.out.fr0 hfa, hc3, by show Blk _ _ (bV _ ++ []).toArray _; rw [List.append_nil]; exact hc1, by show Blk _ _ (List.map _ _ ++ []).toArray _; rw [List.append_nil]; exact hc2, by simp [onOf], by rw [meOf_len]; exact HL.out.symm, by show w.heap.size + 1 + 1 + 1 ≠ w.heap.size + 1 + 1; omega, by show w.heap.size + 1 + 1 + 1 ≠ w.heap.size + 1; omega, by show w.heap.size + 1 + 1 ≠ w.heap.size + 1; omega, ⟨by show G.g3 ≠ w.heap.size + 1 + 1 + 1; omega, by show G.g3 ≠ w.heap.size + 1 + 1; omega, by show G.g3 ≠ w.heap.size + 1; omega⟩, fun k hk => by have := hg4 k hk; exact ⟨by show k ≠ w.heap.size + 1 + 1 + 1; omega, by show k ≠ w.heap.size + 1 + 1; omega, by show k ≠ w.heap.size + 1; omega⟩⟩, rfl⟩
  have hen := denter_any M st (HD.out M HMC.out) 26 W py0 0 Am.free hgm h0 (by omega) (amE_free st _ 0 h0) (memI_0 st) (by show 0 + 160 * 2 ^ 25 ≤ _; omega)
  have HAQ : Hid (aimA st py0.mm Am.free = #[.int .i64 (-1), .string ⟨#[]⟩, .string ⟨#[]⟩]) := rfl
  rw [HAQ.out, HMG.out.1] at hen
  refine Calls.mono hen ?_
  rintro e w4 ⟨rfl, hl4, hp4, hf4⟩
  have hf5 : Fr (fun _ => False) w w4 := hfa.thenr hf4 (fun k hk h => by
   have := HMG.out
   rcases h with h | h | h
   ·omega
   ·omega
   ·omega)
  have HP4 : Hid _ := hp4
  have HL4 : Hid ((enF st 26 0 Am.free py0).out.length ≤ 5368709120) := by have h9 : py0.out.length = 0 := rfl; rw [h9] at hl4; show _ ≤ _; omega
  clear hp4 hl4 hen hgm hM hc1 hc2 hc3 hf4
  go_wp2_with fail
  go_ret
  exact ⟨M, HMC.out, by rw [HMG.out.1]; rfl, HP4.out, by have := HMG.out; omega, HL4.out, hf5⟩

theorem un_pld {s : ByteArray} (h : (unE s).1 = 0) (M : GM) (hs : M.c.sts = (rd s).st) : PlD M (unSt s) := by
 refine ⟨by rw [hs]; exact un_lk h, (un_lg h ⟨#[]⟩).1, (un_names h).2, (plan_ok s h).sz, fun k x hx => (un_marks h k x hx).2.2, ?_⟩
 obtain ⟨h160, hK, hw, hv, hm⟩ := unE_ok h
 have hok : (rcR s).1 = true := by
  simp only [rcK, Bool.and_eq_true] at hK
  exact hK.1
 have hM := (rd_eq s).1 hok
 intro k x y hx hy
 rw [hs, hM.st, List.getElem?_map] at hx
 obtain ⟨z, hz, hsm⟩ := (un_sm h).2 k y hy
 rw [hz] at hx
 simp only [Option.map_some, Option.some.injEq] at hx
 subst hx
 exact ⟨hsm.en.symm, hsm.le.symm⟩
theorem un_mkr {s : ByteArray} (h : (unE s).1 = 0) (M : GM) (ht : M.c.trs = (rd s).tr) : MkR M (unSt s) := by
 intro k x hx
 rw [ht]
 exact ⟨(un_marks h k x hx).1, (un_marks h k x hx).2.1⟩
theorem un_thm {s : ByteArray} (h : (unE s).1 = 0) : ThM (unSt s) (th0 s) := by
 intro k t ht
 have hp := plan_ok s h
 have hMk : MkS (rcR s).2 := MkS.rsF _ _ _ _ (fun t ht => by simp [R0] at ht)
 unfold th0 unTr at ht
 rw [List.map_map, List.getElem?_map] at ht
 cases hq : (rcR s).2.tr[k]? with
 | none => rw [hq] at ht; cases ht
 | some q0 =>
  rw [hq] at ht
  simp only [Option.map_some, Option.some.injEq] at ht
  subst ht
  have hmem : resQ (rcR s).2.st q0 ∈ unTr s := List.mem_map.2 ⟨q0, List.mem_of_getElem? hq, rfl⟩
  obtain ⟨p1, p2, p3, p4⟩ := hp.trs _ hmem
  refine ⟨hMk q0 (List.mem_of_getElem? hq), fun h42 => ?_, p4⟩
  have hlt : (resQ (rcR s).2.st q0).ts.toNat < (unSt s).length := by
   obtain ⟨a1, a2, a3⟩ := p1
   omega
  obtain ⟨x, hx⟩ : ∃ x, (unSt s)[(resQ (rcR s).2.st q0).ts.toNat]? = some x := ⟨_, List.getElem?_eq_getElem hlt⟩
  obtain ⟨y, hy, -⟩ := (un_sm h).2 _ x hx
  obtain ⟨m1, -⟩ := mark_at _ _ _ x y hx hy
  refine ⟨x, hx, ?_⟩
  rw [m1, Bool.or_eq_true]
  right
  rw [List.any_eq_true]
  refine ⟨resQ (rcR s).2.st q0, hmem, ?_⟩
  simp only [Bool.and_eq_true, beq_iff_eq]
  exact ⟨h42, trivial⟩
theorem fold_ml (st : List StP) (th : List TrH) : ∀ (ns : List Nat) (p : Py), (ns.foldl (tk1 st th) p).mm.length = p.mm.length
 | [], p => rfl
 | n :: ns, p => by
  rw [List.foldl_cons, fold_ml st th ns]
  unfold tk1
  split
  ·exact tkF_ml _ _
  ·rfl
theorem plK_ml (st : List StP) (th : List TrH) (es : ByteArray) : ∀ k, (plK st th es k).mm.length = 26
 | 0 => by
  show (enF st 26 0 Am.free py0).mm.length = 26
  rw [enF_mm st py0.mm 26 0 Am.free py0 rfl]
  rfl
 | k + 1 => by
  show ((tkn st th (plK st th es k).act (byte es k)).foldl (tk1 st th) { plK st th es k with out := (plK st th es k).out ++ [46] }).mm.length = 26
  rw [fold_ml]
  exact plK_ml st th es k

set_option maxRecDepth 100000 in
set_option maxHeartbeats 1000000 in
theorem dplay_long (w : World) (s es : ByteArray) (hm : s.size ≤ maxLen) (h : 400 < es.size) :
  Calls Tryz.prog 11 #[.string s, .string es] w fun e w' => e = .returned (.tuple #[.string ⟨#[]⟩, .string ⟨#[]⟩, .int .i64 1, .int .i64 0]) ∧ Fr (fun _ => False) w w' := by
 have h400 : (400 : Int) < es.size := by omega
 unfold maxLen at hm
 by_cases h160 : (160 : Int) < s.size
 ·go_enter Tryz.func11, Tryz.ntmps11
  go_wp2_with fail
  exact bodyPost_ret (v := .tuple #[.string ⟨#[]⟩, .string ⟨#[]⟩, .int .i64 1, .int .i64 0]) (by simp [results, Tryz.results11, go_sem]) rfl ⟨rfl, Fr.refl _ _⟩
 ·have hd : decide ((160 : Int) < s.size) = false := by simpa using h160
  go_enter Tryz.func11, Tryz.ntmps11
  go_wp2_with fail
  exact bodyPost_ret (v := .tuple #[.string ⟨#[]⟩, .string ⟨#[]⟩, .int .i64 1, .int .i64 0]) (by simp [results, Tryz.results11, go_sem]) rfl ⟨rfl, Fr.refl _ _⟩

set_option maxRecDepth 100000 in
set_option maxHeartbeats 1000000 in
theorem dplay_bad (w : World) (s es : ByteArray) (hm : s.size ≤ maxLen) (hes : es.size ≤ 400) (hE : (rdE s).1 ≠ 0) :
  Calls Tryz.prog 11 #[.string s, .string es] w fun e w' => e = .returned (.tuple #[.string ⟨#[]⟩, .string ⟨#[]⟩, .int .i64 (rdE s).1, .int .i64 (rdE s).2]) ∧ Fr (fun _ => False) w w' := by
 have h400 : decide ((400 : Int) < es.size) = false := by simp; omega
 have HM : Hid (s.size ≤ maxLen) := hm
 unfold maxLen at hm
 by_cases h160 : (160 : Int) < s.size
 ·have HE : Hid (rdE s = (1, 0)) := by show _ = _; rw [rdE, if_pos (by omega)]
  rw [HE.out]
  clear hE
  go_enter Tryz.func11, Tryz.ntmps11
  go_wp2_with fail
  exact bodyPost_ret (v := .tuple #[.string ⟨#[]⟩, .string ⟨#[]⟩, .int .i64 1, .int .i64 0]) (by simp [results, Tryz.results11, go_sem]) rfl ⟨rfl, Fr.refl _ _⟩
 ·have hd : decide ((160 : Int) < s.size) = false := by simpa using h160
  obtain ⟨E1, h1⟩ : ∃ E1, (rdE s).1 = E1 := ⟨_, rfl⟩
  obtain ⟨E2, h2⟩ : ∃ E2, (rdE s).2 = E2 := ⟨_, rfl⟩
  rw [h1] at hE
  rw [h1, h2]
  have HE1 : Hid ((rdE s).1 = E1) := h1
  have HE2 : Hid ((rdE s).2 = E2) := h2
  have hq : ((E1 : Int) != 0) = true := by rw [bne_iff_ne]; omega
  clear hE h1 h2
  go_enter Tryz.func11, Tryz.ntmps11
  go_wp2_with fail
  refine (read_any w s HM.out).mono ?_
  rintro e w2 ⟨⟨v3, v4, v5, v6⟩, rfl, ⟨⟨a3, n3, c3, e3⟩, ⟨a4, n4, c4, e4⟩, ⟨a5, n5, c5, e5⟩, ⟨a6, n6, c6, e6⟩⟩, hf2, -⟩
  simp only at e3 e4 e5 e6
  subst e3 e4 e5 e6
  have HF : Hid _ := hf2
  clear hf2
  rw [HE1.out, HE2.out]
  go_wp2_with fail
  exact bodyPost_ret (v := .tuple #[.string ⟨#[]⟩, .string ⟨#[]⟩, .int .i64 E1, .int .i64 E2]) (by simp [results, Tryz.results11, go_sem]) rfl ⟨rfl, by have := HF.out; (repeat (first | exact Fr.refl _ _ | assumption | refine Fr.drewNr ?_ _ | refine Fr.drewr ?_ | refine Fr.allocr ?_ _ | refine Fr.setCellr ?_ _ _ (by first | exact Or.inl rfl | (right; simp; done) | (right; simp; omega))))⟩

set_option maxRecDepth 100000 in
set_option maxHeartbeats 4000000 in
theorem dplay_ok (w : World) (s es : ByteArray) (hm : s.size ≤ maxLen) (hes : es.size ≤ 400) (hU : (unE s).1 = 0) :
  Calls Tryz.prog 11 #[.string s, .string es] w fun e w' => e = .returned (.tuple #[.string (pO s es), .string (pS s es), .int .i64 0, .int .i64 0]) ∧ Fr (fun _ => False) w w' := by
 have h400 : decide ((400 : Int) < es.size) = false := by simp; omega
 have hsz := (unE_ok hU).1
 have h160 : decide ((160 : Int) < s.size) = false := by simp; omega
 have HM : Hid (s.size ≤ maxLen) := hm
 have HU : Hid ((unE s).1 = 0) := hU
 have HE : Hid ((rdE s).1 = 0) := by have := check_eq s; rw [this] at hU; exact hU
 have HE2 : Hid ((rdE s).2 = 0) := by
  have h1 := unE_2 hU
  have h2 := check_eq s
  rw [h2] at h1
  show _ = _
  have h3 : ((rdE s).2 : Int) = 0 := h1
  omega
 have HPO : Hid (pO s es = ⟨(plK (unSt s) (th0 s) es es.size).out.toArray⟩) := by show _ = _; rw [pO, if_pos hU]; rfl
 have HPS : Hid (pS s es = ⟨(stT (unSt s) (plK (unSt s) (th0 s) es es.size).act (plK (unSt s) (th0 s) es es.size).mm (unSt s).length).toArray⟩) := by show _ = _; rw [pS, if_pos hU]; rfl
 have HPI : Hid (∀ k, PyI (unSt s) (plK (unSt s) (th0 s) es k)) := fun k => plK_pyI (th0 s) (un_lg hU ⟨#[]⟩).1 es k
 have HML : Hid (∀ k, (plK (unSt s) (th0 s) es k).mm.length = 26) := plK_ml (unSt s) (th0 s) es
 have HP0 : Hid (0 < (unSt s).length) := (plan_ok s hU).s0
 have HLK : Hid ((rd s).st.length = (unSt s).length ∧ (unSt s).length ≤ 26 ∧ (rd s).tr.length ≤ 1000000) := by
  refine ⟨(un_lk hU).len, (plan_ok s hU).wf.len, ?_⟩
  have h1 := (un_trs hU ⟨0, 0, none, 0, (rd s).st, (rd s).tr⟩ rfl rfl).len
  have h2 := (plan_ok s hU).tl
  have h3 : (th0 s).length = (unTr s).length := by unfold th0; simp
  show (rd s).tr.length ≤ _
  have h4 : (rd s).tr.length = (th0 s).length := h1
  omega
 rw [HPO.out, HPS.out]
 clear hU hsz HPO HPS hm
 generalize hst : unSt s = st at *
 generalize hth : th0 s = th at *
 have HSTE : Hid (unSt s = st) := hst
 have HTHE : Hid (th0 s = th) := hth
 clear hst hth
 go_enter Tryz.func11, Tryz.ntmps11
 go_wp2_with fail
 refine (read_any w s HM.out).mono ?_
 rintro e w1 ⟨⟨v3, v4, v5, v6⟩, rfl, ⟨⟨a3, n3, c3, e3⟩, ⟨a4, n4, c4, e4⟩, ⟨a5, n5, c5, e5⟩, ⟨a6, n6, c6, e6⟩⟩, hf1, hch⟩
 simp only at e3 e4 e5 e6
 subst e3 e4 e5 e6
 rw [HE.out, HE2.out]
 have hr3 := (hch HE.out).r3
 have hr4 := (hch HE.out).r4
 simp only at hr3 hr4
 obtain ⟨va, vc, hv⟩ := row_len hr3
 injection hv with q1 q2 q3
 subst q1 q2 q3
 obtain ⟨vb, vd, hv4⟩ := row_len hr4
 injection hv4 with q4 q5 q6
 subst q4 q5 q6
 obtain ⟨gg, cc, hv3, hcc⟩ := row_form hr3 (by have := HLK.out; have := HP0.out; omega)
 injection hv3 with e1 e2 e3
 subst e1
 subst e3
 clear e2 hcc
 obtain ⟨G, hG⟩ : ∃ G : GC, G = ⟨gg, c3, a4, c4, (rd s).st, (rd s).tr⟩ := ⟨_, rfl⟩
 have HC : Hid (Ct w1 G) := by rw [hG]; exact ⟨hr3, hr4, by have := HLK.out; show (rd s).st.length ≤ _; omega, HLK.out.2.2⟩
 have HGS : Hid (G.sts = (rd s).st ∧ G.trs = (rd s).tr) := by rw [hG]; exact ⟨rfl, rfl⟩
 have HST : Hid (∀ W, Fr (fun _ => False) w1 W → Calls Tryz.prog 16 #[.agg #[.slice (some ⟨gg, 0, none⟩) (rd s).st.length c3, .slice a4 (rd s).tr.length c4, .slice a5 n5 c5, .slice a6 n6 c6]] W fun e w' => ∃ M : GM, M.c = G ∧ e = .returned (.pointer (some ⟨M.gb, 0, none⟩)) ∧ GmP w' M st (enF st 26 0 Am.free py0) ∧ (W.heap.size ≤ M.gb ∧ W.heap.size ≤ M.ob ∧ W.heap.size ≤ M.mb) ∧ (enF st 26 0 Am.free py0).out.length ≤ 5368709120 ∧ Fr (fun _ => False) W w') := fun W fW => by
  have h1 := dstart_any W G st (.slice a5 n5 c5) (.slice a6 n6 c6) (HC.out.fr0 fW) (fun M hM => by rw [← HSTE.out]; exact un_pld HU.out M (by rw [hM]; exact HGS.out.1)) HP0.out
  rw [hG] at h1 ⊢
  exact h1
 have HF1 : Hid (Fr (fun _ => False) w w1) := hf1
 clear hG hr3 hr4 hch hf1
 generalize (rd s).st.length = n3 at *
 generalize (rd s).tr.length = n4 at *
 go_wp2_with fail
 have hfa : Fr (fun _ => False) w1 (w1.alloc (.cells #[.slice (some ⟨gg, 0, none⟩) n3 c3, .slice a4 n4 c4, .slice a5 n5 c5, .slice a6 n6 c6] 48)) := by (repeat (first | exact Fr.refl _ _ | assumption | refine Fr.drewNr ?_ _ | refine Fr.drewr ?_ | refine Fr.allocr ?_ _ | refine Fr.setCellr ?_ _ _ (by first | exact Or.inl rfl | (right; simp; done) | (right; simp; omega))))
 refine Calls.mono (HST.out _ hfa) ?_
 rintro e w2 ⟨M, hMc, rfl, hp2, hge, hl2, hf2⟩
 have HD : Hid (PlD M st) := by show PlD M st; rw [← HSTE.out]; exact un_pld HU.out M (by rw [hMc]; exact HGS.out.1)
 have HMK : Hid (MkR M st) := by show MkR M st; rw [← HSTE.out]; exact un_mkr HU.out M (by rw [hMc]; exact HGS.out.2)
 have HTR : Hid (TrsR M.c st th) := by show TrsR M.c st th; rw [← HSTE.out, ← HTHE.out]; exact un_trs HU.out M.c (by rw [hMc]; exact HGS.out.1) (by rw [hMc]; exact HGS.out.2)
 have HTM : Hid (ThM st th) := by show ThM st th; rw [← HSTE.out, ← HTHE.out]; exact un_thm HU.out
 have HP2 : Hid (GmP w2 M st (plK st th es 0)) := hp2
 have HL2 : Hid ((plK st th es 0).out.length ≤ 5368709120 + 0 * 139586564001) := by show (enF st 26 0 Am.free py0).out.length ≤ _; omega
 have HF2 : Hid (Fr (fun _ => False) w w2) := (HF1.out.thenr hfa (fun _ _ h => h)).thenr hf2 (fun _ _ h => h)
 have HGE : Hid (w.heap.size ≤ M.gb ∧ w.heap.size ≤ M.ob ∧ w.heap.size ≤ M.mb) := by have := HF1.out.size; have := hfa.size; show _ ∧ _; omega
 have HFW : Hid (∀ w', Fr (OwnG M) w2 w' → Fr (fun _ => False) w w') := fun w' h => HF2.out.thenr h (fun k hk ho => by
  have := HGE.out
  rcases ho with h | h | h <;> omega)
 clear hMc hp2 hge hl2 hf2 hfa HST HC HGS HF1
 go_wp2_with fail
 go_loopg [12] 401 (fun g vi wr => ∃ (k : Nat), k ≤ es.size ∧ vi = .int .i64 k ∧ Hid (GmP wr M st (plK st th es k)) ∧ Fr (OwnG M) w2 wr ∧ Hid ((plK st th es k).out.length ≤ 5368709120 + k * 139586564001) ∧ es.size - k ≤ g)
 case atStart => exact ⟨0, Nat.zero_le _, rfl, HP2, Fr.refl _ _, HL2, by omega⟩
 case round =>
  obtain ⟨k, hk, rfl, HP, hfr, HL, hg⟩ := hrel
  by_cases hlt : (k : Int) < es.size
  ·have hlt' : k < es.size := by omega
   have hmul : k * 139586564001 ≤ 399 * 139586564001 := Nat.mul_le_mul_right _ (by omega)
   have hmul2 : (k + 1) * 139586564001 = k * 139586564001 + 139586564001 := Nat.succ_mul _ _
   have HNX : Hid (plK st th es (k + 1) = spF st th (byte es k) { plK st th es k with out := (plK st th es k).out ++ [46] }) := rfl
   have HX : Hid (byte es k = es[k]) := byte_in es k hlt'
   have HBD : Hid ((plK st th es k).out.length + 1 + 160000000000 ≤ 70000000000000 ∧ ∀ n : Nat, n ≤ (plK st th es k).out.length + 1 + 139586564000 → n ≤ 5368709120 + (k + 1) * 139586564001) := by
    have := HL.out
    refine ⟨by omega, fun n hn => by omega⟩
   have HI : Hid (PyI st (plK st th es k)) := HPI.out k
   have HMK2 : Hid ((plK st th es k).mm.length = 26) := HML.out k
   clear hmul hmul2 HL
   generalize plK st th es k = q at *
   obtain ⟨O, hO⟩ : ∃ O : ByteArray, (⟨q.out.toArray⟩ : ByteArray) = O := ⟨_, rfl⟩
   have c6 := HP.out.1.c6
   rw [hO] at c6
   have z6 := Blk.frozen HP.out.1.blk 6
   have hosz : O.size ≤ 70000000000000 := by
    have : O.size = q.out.length := by rw [← hO]; show q.out.toArray.size = _; simp
    have := HBD.out.1
    omega
   have hfA : Fr (OwnG M) w2 (wr.setCell ⟨M.gb, 6, none⟩ (.string (O ++ ⟨#[46]⟩))) := hfr.setCellr ⟨M.gb, 6, none⟩ _ (Or.inl (Or.inl rfl))
   have HPA : Hid (GmP (wr.setCell ⟨M.gb, 6, none⟩ (.string (O ++ ⟨#[46]⟩))) M st { q with out := q.out ++ [46] }) := by
    have hgA := HP.out.1.setOut (O ++ ⟨#[46]⟩)
    have e1 : O ++ ⟨#[46]⟩ = (⟨(q.out ++ [46]).toArray⟩ : ByteArray) := by rw [← hO, out_app]; rfl
    rw [e1] at hgA ⊢
    exact ⟨hgA, HP.out.2⟩
   clear hO
   have HFA : Hid _ := hfA
   have HSTP : Hid (∀ w', Fr (fun _ => False) (wr.setCell ⟨M.gb, 6, none⟩ (.string (O ++ ⟨#[46]⟩))) w' → Calls Tryz.prog 18 #[.pointer (some ⟨M.gb, 0, none⟩), .int .u8 es[k].toNat] w' fun e w'' => e = .returned (.tuple #[]) ∧ (plK st th es (k + 1)).out.length ≤ 5368709120 + (k + 1) * 139586564001 ∧ GmP w'' M st (plK st th es (k + 1)) ∧ Fr (OwnG M) w' w'') := fun w' f => by
    have hol : ({ q with out := q.out ++ [46] } : Py).out.length = q.out.length + 1 := by show (q.out ++ [46]).length = _; rw [List.length_append]; rfl
    have h1 := dstep_any w' M st th { q with out := q.out ++ [46] } es[k] HD.out HMK.out HTR.out HTM.out (HPA.out.fr0 f) ⟨HI.out.l, HI.out.g, HI.out.h, HI.out.m⟩ HMK2.out (by rw [hol]; exact HBD.out.1)
    refine h1.mono ?_
    rintro e w'' ⟨rfl, g1, g2, g3⟩
    rw [hol] at g1
    rw [HNX.out, HX.out]
    exact ⟨rfl, HBD.out.2 _ g1, g2, g3⟩
   clear hfA HX HNX HBD HI HMK2 HP
   go_wp2_with fail
   refine Calls.mono (HSTP.out _ (Fr.refl _ _)) ?_
   rintro e w4 ⟨rfl, hl4, hp4, hf4⟩
   have HL4 : Hid _ := hl4
   have HP4 : Hid _ := hp4
   have hf5 := HFA.out.thenr hf4 (fun _ _ h => h)
   clear hl4 hp4 hf4 HSTP HFA HPA c6 z6
   go_wp2_with fail
   go_roundg (es.size - (k + 1))
   case measure => omega
   case rel => exact ⟨k + 1, by omega, by go_num, HP4, hf5, HL4, Nat.le_refl _⟩
  ·have hkn : k = es.size := by omega
   subst hkn
   have HI : Hid (MemI st (plK st th es es.size).mm) := (HPI.out es.size).m
   have HFE := HFW.out wr hfr
   clear HL hfr HPI HML
   obtain ⟨q, hq⟩ : ∃ q, plK st th es es.size = q := ⟨_, rfl⟩
   have HQ : Hid (plK st th es es.size = q) := hq
   rw [hq] at HP HI
   clear hq
   have c6 := HP.out.1.c6
   have HTX : Hid (∀ w', Fr (fun _ => False) wr w' → Calls Tryz.prog 19 #[.pointer (some ⟨M.gb, 0, none⟩)] w' fun e w'' => e = .returned (.string ⟨(stT st q.act q.mm st.length).toArray⟩) ∧ Fr (fun _ => False) w' w'') := fun w' f => dtext_any w' M st q HD.out (HP.out.fr0 f) HI.out
   obtain ⟨sx, hsx⟩ : ∃ sx : ByteArray, (⟨(stT st q.act q.mm st.length).toArray⟩ : ByteArray) = sx := ⟨_, rfl⟩
   obtain ⟨ox, hox⟩ : ∃ ox : ByteArray, (⟨q.out.toArray⟩ : ByteArray) = ox := ⟨_, rfl⟩
   rw [hsx] at HTX
   rw [hox] at c6
   have HOX : Hid ((⟨q.out.toArray⟩ : ByteArray) = ox) := hox
   have HSX : Hid ((⟨(stT st q.act q.mm st.length).toArray⟩ : ByteArray) = sx) := hsx
   clear hsx hox
   go_wp2_with fail
   go_region_with (go_at_call 19; refine Calls.mono (HTX.out _ ?_) ?_; (repeat (first | exact Fr.refl _ _ | assumption | refine Fr.drewNr ?_ _ | refine Fr.drewr ?_ | refine Fr.allocr ?_ _ | refine Fr.setCellr ?_ _ _ (by first | exact Or.inl rfl | (right; simp; done) | (right; simp; omega)))); rintro e w4 ⟨rfl, hf4⟩; have hf04 : Fr (fun _ => False) wr w4 := Fr.thenr (by (repeat (first | exact Fr.refl _ _ | assumption | refine Fr.drewNr ?_ _ | refine Fr.drewr ?_ | refine Fr.allocr ?_ _ | refine Fr.setCellr ?_ _ _ (by first | exact Or.inl rfl | (right; simp; done) | (right; simp; omega))))) hf4 (fun _ _ h => h); have c64 := (HP.out.fr0 hf04).1.c6; rw [HOX.out] at c64)
   all_goals
    have hfw := HFE.thenr hf04 (fun _ _ h => h)
    go_wp2_with fail
    exact bodyPost_ret (v := .tuple #[.string ox, .string sx, .int .i64 0, .int .i64 0]) (by simp [results, Tryz.results11, go_sem]) rfl ⟨by rw [HQ.out, HOX.out, HSX.out], by (repeat (first | exact Fr.refl _ _ | assumption | refine Fr.drewNr ?_ _ | refine Fr.drewr ?_ | refine Fr.allocr ?_ _ | refine Fr.setCellr ?_ _ _ (by first | exact Or.inl rfl | (right; simp; done) | (right; simp; omega))))⟩
theorem dplay_any (w : World) (s es : ByteArray) (hm : s.size ≤ maxLen) (hes : es.size ≤ 400) :
  Calls Tryz.prog 11 #[.string s, .string es] w fun e w' => e = .returned (.tuple #[.string (pO s es), .string (pS s es), .int .i64 (rdE s).1, .int .i64 (rdE s).2]) ∧ Fr (fun _ => False) w w' := by
 have hc := check_eq s
 by_cases hU : (unE s).1 = 0
 ·have h2 := unE_2 hU
  have h1 := dplay_ok w s es hm hes hU
  rw [hc] at hU h2
  have e1 : (rdE s).1 = 0 := hU
  have e2 : (rdE s).2 = 0 := by have : ((rdE s).2 : Int) = 0 := h2; omega
  rw [e1, e2]
  exact h1
 ·have hE : (rdE s).1 ≠ 0 := by rw [hc] at hU; exact hU
  have h1 := dplay_bad w s es hm hes hE
  rw [pO, pS, if_neg hU, if_neg hU]
  exact h1
end Go.Proofs.YtmolmbeeoecnfaaGreatDoor
