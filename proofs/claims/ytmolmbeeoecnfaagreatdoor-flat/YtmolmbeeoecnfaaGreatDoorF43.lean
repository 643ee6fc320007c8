/- Own work: PgEZ. -/
import Derived.Test.YtmolmbeeoecnfaaGreatDoorF42
import Derived.Laws.MakeOwn
/- Own work: walks of the document's game: leaves. -/
namespace Go.Proofs.YtmolmbeeoecnfaaGreatDoor
open Go.RowKit Go.BigFrame
set_option linter.unusedVariables false
set_option linter.unusedSimpArgs false

def lvK (l : List Bool) (n k : Nat) : List Bool := (List.range n).map fun i => if i < k then mem l i else false
theorem lvK_0 (l : List Bool) (n : Nat) : lvK l n 0 = List.replicate n false := by
 apply List.ext_getElem?
 intro i
 by_cases h : i < n
 ·simp [lvK, h]
 ·rw [List.getElem?_eq_none (by simp [lvK]; omega), List.getElem?_eq_none (by simp; omega)]
theorem lvK_n (l : List Bool) (n : Nat) : lvK l n n = onOf n l := by
 apply List.ext_getElem?
 intro i
 by_cases h : i < n
 ·simp [lvK, onOf, h]
 ·rw [List.getElem?_eq_none (by simp [lvK]; omega), List.getElem?_eq_none (by simp [onOf]; omega)]
theorem lvK_set (l : List Bool) (n k : Nat) (h : k < n) : (bV (lvK l n k)).toArray.setIfInBounds k (.bool (mem l k)) = (bV (lvK l n (k + 1))).toArray := by
 apply Array.ext_getElem?
 intro i
 rw [Array.getElem?_setIfInBounds]
 by_cases hi : i < n
 ·by_cases e : k = i
  ·subst e
   simp [bV, lvK, h]
  ·have h1 : (i < k + 1) = (i < k) := by apply propext; omega
   simp [bV, lvK, hi, e, h1]
 ·have h1 : (bV (lvK l n k)).toArray[i]? = none := by simp [bV, lvK]; omega
  have h2 : (bV (lvK l n (k + 1))).toArray[i]? = none := by simp [bV, lvK]; omega
  rw [h1, h2]
  by_cases e : k = i
  ·omega
  ·simp [e]
theorem mk_bools (w : World) (n : Nat) (h : n ≤ 1000) : Sem.run Tryz.prog (Instr.makeSlice 54 (.int .i64 n) (.int .i64 n)) w = .ok (.slice (some ⟨w.heap.size, 0, none⟩) n n) (w.alloc (.cells (bV (List.replicate n false)).toArray 4)) := by
 obtain ⟨i, h0, h1, h2, h3⟩ := info_parts (show (Tryz.prog.info? 4).map (fun i => (i.zero, i.size, i.bytes)) = some (some (.bool false), 1, 1) by kernel_rfl)
 have hr := run_makeSlice (P := Tryz.prog) w 54 4 i (.bool false) Tryz.underlying54 h0 h1 .i64 .i64 n n (by omega) (Int.le_refl _) (by rw [h2]; omega) (by rw [h3]; omega) (by omega)
 rw [h2, Int.toNat_natCast, Nat.mul_one] at hr
 have e : madeCells (Value.bool false).cells n = (bV (List.replicate n false)).toArray := by
  apply Array.ext_getElem?
  intro k
  by_cases hk : k < n
  ·have h9 : [Value.bool false][k % 1]? = some (Value.bool false) := by rw [Nat.mod_one]; rfl
   simp [madeCells, bV, hk, Value.cells, h9]
  ·simp [madeCells, bV, hk]
 rw [e] at hr
 exact hr
set_option maxRecDepth 100000 in
set_option maxHeartbeats 2000000 in
theorem dleaves_any (w : World) (M : GM) (st : List StP) (act : List Bool) (me : List ByteArray) (o : ByteArray) (hal : act.length = 26) (hg : Gm w M (onOf M.c.sts.length act) me o) (hk : Lk M.c.sts st) (htr : Tr st) (t : TrR) (q : TrQ) (hq : TqF M.c st t q) :
  Calls Tryz.prog 56 #[.pointer (some ⟨M.gb, 0, none⟩), .agg t.cells.toArray] w fun e w' => ∃ lb, e = .returned (.slice (some ⟨lb, 0, none⟩) M.c.sts.length M.c.sts.length) ∧ Blk w' lb (bV (onOf M.c.sts.length (lefB st act q))).toArray 4 ∧ w.heap.size ≤ lb ∧ Fr (fun _ => False) w w' := by
 have hl3 := hg.ct.l3
 have hlk := hk.len
 have hsc := scOf_bd st htr.wf q hq.r.ok
 have HL : Hid _ := hlk
 have hbt := Blk.new w t.cells.toArray 96
 have hfw : Fr (fun _ => False) w (w.alloc (.cells t.cells.toArray 96)) := by (repeat (first | exact Fr.refl _ _ | assumption | refine Fr.drewNr ?_ _ | refine Fr.drewr ?_ | refine Fr.allocr ?_ _ | refine Fr.setCellr ?_ _ _ (by first | exact Or.inl rfl | (right; simp; done) | (right; simp; omega))))
 have hgw := hg.fr0 hfw
 have c4 := hgw.c4
 have hTC : t.cells.toArray = #[.int .i64 t.from_, .int .u8 t.event.toNat, .string t.conds, .int .u8 t.target.toNat, .string t.mark, .string t.acts] := rfl
 have HTC : Hid _ := hTC
 obtain ⟨t0, t1, t2, t3, t4, t5⟩ : (w.alloc (.cells t.cells.toArray 96)).cell? ⟨w.heap.size, 0, none⟩ = some (.int .i64 t.from_) ∧ (w.alloc (.cells t.cells.toArray 96)).cell? ⟨w.heap.size, 1, none⟩ = some (.int .u8 t.event.toNat) ∧ (w.alloc (.cells t.cells.toArray 96)).cell? ⟨w.heap.size, 2, none⟩ = some (.string t.conds) ∧ (w.alloc (.cells t.cells.toArray 96)).cell? ⟨w.heap.size, 3, none⟩ = some (.int .u8 t.target.toNat) ∧ (w.alloc (.cells t.cells.toArray 96)).cell? ⟨w.heap.size, 4, none⟩ = some (.string t.mark) ∧ (w.alloc (.cells t.cells.toArray 96)).cell? ⟨w.heap.size, 5, none⟩ = some (.string t.acts) := by
  refine ⟨?_, ?_, ?_, ?_, ?_, ?_⟩ <;> (rw [Blk.cell hbt]; rfl)
 have HSC : Hid (∀ w', Fr (fun _ => False) (w.alloc (.cells t.cells.toArray 96)) w' → Calls Tryz.prog 58 #[.pointer (some ⟨M.gb, 0, none⟩), .agg #[.int .i64 t.from_, .int .u8 t.event.toNat, .string t.conds, .int .u8 t.target.toNat, .string t.mark, .string t.acts]] w' fun e w'' => e = .returned (.int .i64 (scOf st q)) ∧ Fr (fun _ => False) w' w'') := fun w' f => by
  have h1 := dscope_any w' M.c st M.gb hk htr (hgw.fr0 f).ct (hgw.fr0 f).cp t q hq.r
  rwa [hTC] at h1
 have HK : Hid _ := hk
 have HTR : Hid _ := htr
 generalize t.cells.toArray = T at *
 clear hk htr hlk hq hTC
 go_enter Tryz.func56, Tryz.ntmps56
 go_wp2_with fail
 have hmk := mk_bools (w.alloc (.cells T 96)) M.c.sts.length (by omega)
 have hlb := Blk.new (w.alloc (.cells T 96)) (bV (List.replicate M.c.sts.length false)).toArray 4
 have hf2 := (Fr.refl (fun _ => False) (w.alloc (.cells T 96))).allocr (.cells (bV (List.replicate M.c.sts.length false)).toArray 4)
 have HLB : Hid (w.heap.size ≤ (w.alloc (.cells T 96)).heap.size) := by show _ ≤ _; simp
 rw [hmk]
 clear hmk
 have hgw2 := hgw.fr0 hf2
 have hbt2 := Blk.fr hbt hf2 (fun h => h)
 have hfw2 := hfw.thenr hf2 (fun _ _ h => h)
 have HSC2 : Hid (∀ w', Fr (fun _ => False) ((w.alloc (.cells T 96)).alloc (.cells (bV (List.replicate M.c.sts.length false)).toArray 4)) w' → Calls Tryz.prog 58 #[.pointer (some ⟨M.gb, 0, none⟩), .agg #[.int .i64 t.from_, .int .u8 t.event.toNat, .string t.conds, .int .u8 t.target.toNat, .string t.mark, .string t.acts]] w' fun e w'' => e = .returned (.int .i64 (scOf st q)) ∧ Fr (fun _ => False) w' w'') := fun w' f => HSC.out w' (hf2.thenr f (fun _ _ h => h))
 clear c4 t0 t1 t2 t3 t4 t5 hgw HSC hf2 hfw
 generalize hlb0 : (w.alloc (.cells T 96)).heap.size = lb at *
 generalize (w.alloc (.cells T 96)).alloc (.cells (bV (List.replicate M.c.sts.length false)).toArray 4) = W at *
 have htb0 : w.heap.size < lb := by rw [← hlb0]; simp
 clear hlb0 hbt
 rw [HTC.out] at hbt2
 obtain ⟨t0, t1, t2, t3, t4, t5⟩ : W.cell? ⟨w.heap.size, 0, none⟩ = some (.int .i64 t.from_) ∧ W.cell? ⟨w.heap.size, 1, none⟩ = some (.int .u8 t.event.toNat) ∧ W.cell? ⟨w.heap.size, 2, none⟩ = some (.string t.conds) ∧ W.cell? ⟨w.heap.size, 3, none⟩ = some (.int .u8 t.target.toNat) ∧ W.cell? ⟨w.heap.size, 4, none⟩ = some (.string t.mark) ∧ W.cell? ⟨w.heap.size, 5, none⟩ = some (.string t.acts) := by
  refine ⟨?_, ?_, ?_, ?_, ?_, ?_⟩ <;> (rw [Blk.cell hbt2]; rfl)
 go_wp2_with fail
 go_region_with (go_at_call 58; refine Calls.mono (HSC2.out _ ?_) ?_; (repeat (first | exact Fr.refl _ _ | assumption | refine Fr.drewNr ?_ _ | refine Fr.drewr ?_ | refine Fr.allocr ?_ _ | refine Fr.setCellr ?_ _ _ (by first | exact Or.inl rfl | (right; simp; done) | (right; simp; omega)))); rintro e w3 ⟨rfl, hf3⟩)
 all_goals
  have hfw3 : Fr (fun _ => False) w w3 := hfw2.thenr ((by (repeat (first | exact Fr.refl _ _ | assumption | refine Fr.drewNr ?_ _ | refine Fr.drewr ?_ | refine Fr.allocr ?_ _ | refine Fr.setCellr ?_ _ _ (by first | exact Or.inl rfl | (right; simp; done) | (right; simp; omega)))) : Fr (fun _ => False) W W.drew).thenr hf3 (fun _ _ h => h)) (fun _ _ h => h)
  have hlb3 := Blk.fr hlb ((by (repeat (first | exact Fr.refl _ _ | assumption | refine Fr.drewNr ?_ _ | refine Fr.drewr ?_ | refine Fr.allocr ?_ _ | refine Fr.setCellr ?_ _ _ (by first | exact Or.inl rfl | (right; simp; done) | (right; simp; omega)))) : Fr (fun _ => False) W W.drew).thenr hf3 (fun _ _ h => h)) (fun h => h)
  clear t0 t1 t2 t3 t4 t5 hf3 hlb hbt2 hgw2 HSC2 hfw2
  go_wp2_with fail
  go_loopw [7] (fun vk wr => ∃ k : Nat, k ≤ M.c.sts.length ∧ vk = .int .i64 k ∧ Blk wr lb (bV (lvK (lefB st act q) M.c.sts.length k)).toArray 4 ∧ Fr (fun _ => False) w wr) (fun vk _ => M.c.sts.length - (intOf vk).toNat)
  case atStart => exact ⟨0, Nat.zero_le _, rfl, by rw [lvK_0]; exact hlb3, hfw3⟩
  case round =>
   obtain ⟨k, hk, rfl, hlr, hfr⟩ := hrel
   have hgr := hg.fr0 hfr
   have c4 := hgr.c4
   by_cases hlt : (k : Int) < M.c.sts.length
   ·have hlt' : k < M.c.sts.length := by omega
    have fk := hgr.on' hlt'
    rw [onOf_mem _ _ _ hlt'] at fk
    have hlk : w.heap.size < lb := htb0
    have hst0 := Blk.frozen hlr k
    have hld : wr.cell? ⟨lb, k, none⟩ = some (.bool false) := by
     rw [Blk.cell hlr]
     simp [bV, lvK, hlt']
    have hlbl := Blk.lt hlr
    by_cases hd : scOf st q = -1
    ·have HMEM : Hid (mem (lefB st act q) k = mem act k) := by show _ = _; unfold lefB; rw [if_pos hd]
     rw [hd]
     clear hd
     cases ha : mem act k with
     | true =>
      have HM : Hid (mem (lefB st act q) k = true) := by show _ = _; rw [HMEM.out, ha]
      have HST : Hid _ := lvK_set (lefB st act q) M.c.sts.length k hlt'
      rw [HM.out] at HST
      rw [ha] at fk
      clear ha
      go_wp2_with fail
      go_roundw
      case rel => exact ⟨k + 1, by omega, by go_num, by rw [← HST.out]; exact Blk.set hlr k _, hfr.setCellr ⟨lb, k, none⟩ _ (Or.inr (by show w.heap.size ≤ lb; omega))⟩
      case measure => simp [intOf]; omega
     | false =>
      have HM : Hid (mem (lefB st act q) k = false) := by show _ = _; rw [HMEM.out, ha]
      have HST : Hid _ := lvK_set (lefB st act q) M.c.sts.length k hlt'
      rw [HM.out] at HST
      rw [ha] at fk
      clear ha
      go_wp2_with fail
      go_roundw
      case rel => exact ⟨k + 1, by omega, by go_num, by rw [← HST.out]; exact Blk.set hlr k _, hfr.setCellr ⟨lb, k, none⟩ _ (Or.inr (by show w.heap.size ≤ lb; omega))⟩
      case measure => simp [intOf]; omega
    ·obtain ⟨d, hdd⟩ : ∃ d : Nat, scOf st q = d := ⟨(scOf st q).toNat, by omega⟩
     have hdl : d < M.c.sts.length := by have := HL.out; omega
     obtain ⟨x, hx⟩ : ∃ x, M.c.sts[d]? = some x := ⟨_, List.getElem?_eq_getElem hdl⟩
     have HEN : Hid (x.end_ = endAt st d) := (HK.out.en d x hx).1
     have HMEM : Hid (mem (lefB st act q) k = ((decide ((d : Int) < (k : Int)) && decide ((k : Int) < (x.end_ : Int))) && mem act k)) := by
      show _ = _
      unfold lefB
      rw [if_neg hd, hdd, Int.toNat_natCast]
      unfold actB
      rw [mem_bel _ _ _ _ (by omega), HEN.out]
      congr 2
      ·simp
      ·simp
     have HX : Hid _ := hx
     have hdn : decide ((d : Int) < 0) = false := by simp
     rw [hdd]
     clear hd hdd hx
     go_wp2_with fail
     refine (dbelow_any wr M.c M.gb hgr.ct hgr.cp (k : Int) d x HX.out).mono ?_
     rintro e w4 ⟨rfl, hf4⟩
     have HBX := Blk.fr hlr hf4 (fun h => h)
     have HFX := hfr.thenr hf4 (fun _ _ h => h)
     have hg4 := hgr.fr0 hf4
     have c4 := hg4.c4
     have fk := hg4.on' hlt'
     rw [onOf_mem _ _ _ hlt'] at fk
     have hst4 := Blk.frozen HBX k
     have hld4 : w4.cell? ⟨lb, k, none⟩ = some (.bool false) := by
      rw [Blk.cell HBX]
      simp [bV, lvK, hlt']
     cases hin : (decide ((d : Int) < (k : Int)) && decide ((k : Int) < (x.end_ : Int))) with
     | true =>
      cases ha : mem act k with
      | true =>
       have HM : Hid (mem (lefB st act q) k = true) := by show _ = _; rw [HMEM.out, hin, ha]; rfl
       have HST : Hid _ := lvK_set (lefB st act q) M.c.sts.length k hlt'
       rw [HM.out] at HST
       rw [ha] at fk
       clear hin ha
       go_wp2_with fail
       go_roundw
       case rel => exact ⟨k + 1, by omega, by go_num, by rw [← HST.out]; exact Blk.set HBX k _, HFX.setCellr ⟨lb, k, none⟩ _ (Or.inr (by show w.heap.size ≤ lb; omega))⟩
       case measure => simp [intOf]; omega
      | false =>
       have HM : Hid (mem (lefB st act q) k = false) := by show _ = _; rw [HMEM.out, hin, ha]; rfl
       have HST : Hid _ := lvK_set (lefB st act q) M.c.sts.length k hlt'
       rw [HM.out] at HST
       rw [ha] at fk
       clear hin ha
       go_wp2_with fail
       go_roundw
       case rel => exact ⟨k + 1, by omega, by go_num, by rw [← HST.out]; exact Blk.set HBX k _, HFX.setCellr ⟨lb, k, none⟩ _ (Or.inr (by show w.heap.size ≤ lb; omega))⟩
       case measure => simp [intOf]; omega
     | false =>
      have HM : Hid (mem (lefB st act q) k = false) := by show _ = _; rw [HMEM.out, hin]; rfl
      have HST : Hid _ := lvK_set (lefB st act q) M.c.sts.length k hlt'
      rw [HM.out] at HST
      clear hin
      go_wp2_with fail
      go_roundw
      case rel => exact ⟨k + 1, by omega, by go_num, by rw [← HST.out]; exact Blk.set HBX k _, HFX.setCellr ⟨lb, k, none⟩ _ (Or.inr (by show w.heap.size ≤ lb; omega))⟩
      case measure => simp [intOf]; omega
   ·have hkn : k = M.c.sts.length := by omega
    rw [hkn, lvK_n] at hlr
    go_wp2_with fail
    go_ret
    exact ⟨lb, rfl, hlr, by omega, hfr⟩

def jnK (a b : List Bool) (n k : Nat) : List Bool := (List.range n).map fun i => if i < k then mem a i || mem b i else mem a i
theorem jnK_0 (a b : List Bool) (n : Nat) : jnK a b n 0 = onOf n a := by
 unfold jnK onOf; apply List.map_congr_left; intro i _; rw [if_neg (by omega)]
theorem jnK_n (a b : List Bool) (n : Nat) (h : n ≤ 26) : jnK a b n n = onOf n (unK a b 26) := by
 unfold jnK onOf; apply List.map_congr_left; intro i hi
 have := List.mem_range.1 hi
 rw [if_pos this, mem_unK _ _ _ _ (by omega), if_pos (by omega)]
theorem jnK_set (a b : List Bool) (n k : Nat) (h : k < n) : (bV (jnK a b n k)).toArray.setIfInBounds k (.bool (mem a k || mem b k)) = (bV (jnK a b n (k + 1))).toArray := by
 apply Array.ext_getElem?
 intro i
 rw [Array.getElem?_setIfInBounds]
 by_cases hi : i < n
 ·by_cases e : k = i
  ·subst e
   simp [bV, jnK, h]
  ·have h1 : (i < k + 1) = (i < k) := by apply propext; omega
   simp [bV, jnK, hi, e, h1]
 ·have h1 : (bV (jnK a b n k)).toArray[i]? = none := by simp [bV, jnK]; omega
  have h2 : (bV (jnK a b n (k + 1))).toArray[i]? = none := by simp [bV, jnK]; omega
  rw [h1, h2]
  by_cases e : k = i
  ·omega
  ·simp [e]
theorem jnK_cell (a b : List Bool) (n k i : Nat) (h : i < n) : (bV (jnK a b n k)).toArray[i]? = some (.bool (if i < k then mem a i || mem b i else mem a i)) := by
 simp [bV, jnK, h]
theorem onOf_cell (a : List Bool) (n i : Nat) (h : i < n) : (bV (onOf n a)).toArray[i]? = some (.bool (mem a i)) := by
 simp [bV, onOf, h]
theorem mem_farG {l : List Bool} (hl : l.length = 26) {i : Nat} (h : 26 ≤ i) : mem l i = false := by
 unfold mem; rw [List.getElem?_eq_none (by omega)]
theorem mts_iffG (l m : List Bool) : mts l m = true ↔ ∃ i, i < 26 ∧ mem l i = true ∧ mem m i = true := by
 unfold mts
 rcases firstB_spec (fun k => mem l k && mem m k) 26 with ⟨h1, h2⟩ | ⟨k, h1, h2, h3, -⟩
 ·rw [h1]
  constructor
  ·intro h; cases h
  ·rintro ⟨i, i1, i2, i3⟩
   have := h2 i i1
   rw [i2, i3] at this; cases this
 ·rw [h1]
  simp only [Bool.and_eq_true] at h3
  exact ⟨fun _ => ⟨k, h2, h3⟩, fun _ => rfl⟩
theorem firstB_or (P : Nat → Bool) (i : Nat) : (firstB P (i + 1)).isSome = ((firstB P i).isSome || P i) := by
 simp only [firstB]
 cases firstB P i with
 | some y => rfl
 | none => cases h : P i <;> simp
def NoHi (n : Nat) (l : List Bool) : Prop := ∀ i, n ≤ i → mem l i = false
theorem lef_hi {st : List StP} {act : List Bool} (h : NoHi st.length act) (q : TrQ) : NoHi st.length (lefB st act q) := by
 intro i hi
 unfold lefB
 split
 ·exact h i hi
 ·unfold actB
  by_cases h26 : i < 26
  ·rw [mem_bel _ _ _ _ h26, h i hi]; simp
  ·exact mem_farG (belK_len _ _ _) (by omega)
theorem mts_lo {n : Nat} {l m : List Bool} (h : NoHi n l) (hn : n ≤ 26) : mts l m = (firstB (fun i => mem l i && mem m i) n).isSome := by
 rw [Bool.eq_iff_iff, mts_iffG]
 rcases firstB_spec (fun i => mem l i && mem m i) n with ⟨h1, h2⟩ | ⟨k, h1, h2, h3, -⟩
 ·rw [h1]
  constructor
  ·rintro ⟨i, i1, i2, i3⟩
   by_cases e : i < n
   ·have := h2 i e; rw [i2, i3] at this; cases this
   ·rw [h i (by omega)] at i2; cases i2
  ·intro e; cases e
 ·rw [h1]
  simp only [Bool.and_eq_true] at h3
  exact ⟨fun _ => rfl, fun _ => ⟨k, by omega, h3.1, h3.2⟩⟩
def zJ (st : List StP) (th : List TrH) (act : List Bool) (cl : List Nat) (j : Nat) : List Nat × List Bool := (cl.take j).foldl (wc1 st th act) ([], noSet)
theorem zJ_succ {st : List StP} {th : List TrH} {act : List Bool} {cl : List Nat} {j : Nat} {n : Nat} (h : cl[j]? = some n) : zJ st th act cl (j + 1) = wc1 st th act (zJ st th act cl j) n := by
 obtain ⟨h1, h2⟩ := List.getElem?_eq_some_iff.1 h
 unfold zJ
 rw [List.take_succ_eq_append_getElem h1, List.foldl_append, h2]
 rfl
theorem zJ_len {st : List StP} {th : List TrH} {act : List Bool} {cl : List Nat} (j : Nat) : (zJ st th act cl j).1.length ≤ cl.length := by
 have h := (wcF_in st th act (cl.take j) ([], noSet)).2
 have h2 := List.length_take_le j cl
 have h3 := List.length_take_le' j cl
 unfold zJ
 simp only [List.length_nil] at h
 omega
set_option maxRecDepth 100000 in
set_option maxHeartbeats 4000000 in
theorem dtaken_any (w : World) (M : GM) (st : List StP) (th : List TrH) (act : List Bool) (me : List ByteArray) (o : ByteArray) (hal : act.length = 26) (hhi : NoHi st.length act) (hg : Gm w M (onOf M.c.sts.length act) me o) (ht : TrsR M.c st th) (hk : Lk M.c.sts st) (htr : Tr st) (hL : Lg st act) (ev : UInt8) :
    Calls Tryz.prog 36 #[.pointer (some ⟨M.gb, 0, none⟩), .int .u8 ev.toNat] w fun e w' => ∃ v, e = .returned v ∧ Fr (fun _ => False) w w' ∧ w'.ownsRow 0 3 1 v (tkn st th act ev).length (inV (tkn st th act ev)) ∧ ∀ k, v.ownBlock = some k → w.heap.size ≤ k := by
  have HK : Hid _ := hk
  have HT : Hid _ := ht
  have HTR : Hid _ := htr
  have HHI : Hid _ := hhi
  have HL : Hid (M.c.sts.length = st.length) := hk.len
  have HIN : Hid (∀ n ∈ clL st th act ev, n < th.length) := clK_in st th act ev st.length
  have hll : (clL st th act ev).length ≤ M.c.sts.length := by have := clK_len st th act ev st.length; have := hk.len; unfold clL; omega
  have hl3 := hg.ct.l3
  have hl4 := hg.ct.l4
  go_enter Tryz.func36, Tryz.ntmps36
  go_wp2_with fail
  refine (dcalled_any w M st th act me o hg ht hk htr hL ev).mono ?_
  rintro e w1 ⟨cv0, rfl, hf1, hrow1, hown1⟩
  have HTK : Hid (tkn st th act ev = (zJ st th act (clL st th act ev) (clL st th act ev).length).1) := by
    show _ = _; unfold tkn wcL zJ; rw [List.take_of_length_le (Nat.le_refl _)]
  generalize clL st th act ev = cl at *
  obtain ⟨ca, ck, hcv⟩ := row_len hrow1
  have hg1 := hg.fr0 hf1
  have c4 := hg1.c4
  have hmk := mk_bools w1 M.c.sts.length (by omega)
  have hgo1 := Blk.new w1 (bV (List.replicate M.c.sts.length false)).toArray 4
  have hfa : Fr (fun _ => False) w1 (w1.alloc (.cells (bV (List.replicate M.c.sts.length false)).toArray 4)) := by (repeat (first | exact Fr.refl _ _ | assumption | refine Fr.drewNr ?_ _ | refine Fr.drewr ?_ | refine Fr.allocr ?_ _ | refine Fr.setCellr ?_ _ _ (by first | exact Or.inl rfl | (right; simp; done) | (right; simp; omega))))
  have hrow2 := row_fr hrow1 hfa (fun _ _ h => h)
  have hfw2 := hf1.thenr hfa (fun _ _ h => h)
  have hsz1 := hf1.size
  have hrl := fun b hb => (hrow1.lt b hb).2
  have hsz2 : (w1.alloc (.cells (bV (List.replicate M.c.sts.length false)).toArray 4)).heap.size = w1.heap.size + 1 := by simp
  rw [hcv] at hrow2 hrl hown1 ⊢
  clear hk ht htr hL hhi hcv hrow1 hfa
  go_wp2_with fail
  clear hmk c4 hg1 hf1
  have e0 : (bV (List.replicate M.c.sts.length false)).toArray = (bV (onOf M.c.sts.length noSet)).toArray := by
    rw [← jnK_0 noSet noSet, ← lvK_0 noSet]
    congr 2
    unfold lvK jnK
    apply List.map_congr_left; intro i _
    rw [if_neg (by omega), if_neg (by omega), mem_no]
  generalize hW : w1.alloc (.cells (bV (List.replicate M.c.sts.length false)).toArray 4) = W2 at *
  rw [e0] at hgo1
  clear hW e0
  generalize w1.heap.size = gq at *
  go_loopw [7, 8] (fun vl vj wr => ∃ (j : Nat) (cv : Value), j ≤ cl.length ∧ vj = .int .i64 j ∧ vl = cv ∧ wr.ownsRow 0 3 1 cv (zJ st th act cl j).1.length (inV (zJ st th act cl j).1) ∧ (∀ b, cv.ownBlock = some b → W2.heap.size ≤ b) ∧ Blk wr gq (bV (onOf M.c.sts.length (zJ st th act cl j).2)).toArray 4 ∧ Fr (· = gq) W2 wr) (fun _ vj _ => cl.length - (intOf vj).toNat)
  case atStart => exact ⟨0, _, Nat.zero_le _, rfl, rfl, World.ownsRow_nil _ _ _ _, fun b hb => (by simp [Value.ownBlock] at hb), hgo1, Fr.refl _ _⟩
  case round =>
    obtain ⟨j, cv, hj, rfl, rfl, hrow, hown, hgo, hfr⟩ := hrel
    have hfo : Fr (fun _ => False) w wr := hfw2.thenr hfr (fun i hi e => by subst e; omega)
    have hgr := hg.fr0 hfo
    obtain ⟨c0, c1⟩ := hgr.cp
    have hrc := row_fr hrow2 hfr (fun b hb e => by have := hrl b hb; omega)
    have hrlt0 : ∀ b, Value.ownBlock _ = some b → b < wr.heap.size := fun b hb => (hrow.lt b hb).2
    obtain ⟨ra, rk, hcv⟩ := row_len hrow
    have HCV : Hid _ := hcv
    have HR : Hid _ := hrow
    rw [hcv]
    clear hrow hcv
    by_cases hlt : (j : Int) < cl.length
    · have hlt' : j < cl.length := by omega
      obtain ⟨n, hn⟩ : ∃ n, cl[j]? = some n := ⟨_, List.getElem?_eq_getElem hlt'⟩
      obtain ⟨gc, cc, hvc, hcc⟩ := row_form hrc (by omega)
      injection hvc with e1 e2 e3
      subst e1
      subst e3
      clear e2
      have hcell := (row_cell hrc j (.int .i64 (n : Int)) (by simp [inV, hn])).1
      have hnl := HIN.out n (List.mem_of_getElem? hn)
      have hnt : n < M.c.trs.length := by rw [HT.out.len]; exact hnl
      obtain ⟨t, hx⟩ : ∃ t, M.c.trs[n]? = some t := ⟨_, List.getElem?_eq_getElem hnt⟩
      obtain ⟨h, hh⟩ : ∃ h, th[n]? = some h := ⟨_, List.getElem?_eq_getElem hnl⟩
      have hq := HT.out.each n t h hx hh
      have hr4 := hgr.ct.r4
      obtain ⟨g4, cc4, hv4, hcc4⟩ := row_form hr4 (by omega)
      rw [hv4] at c1 hr4
      obtain ⟨t0, t1, t2, t3, t4, t5⟩ := tr6F hr4 hx
      have HTC : Hid (t.cells.toArray = #[.int .i64 t.from_, .int .u8 t.event.toNat, .string t.conds, .int .u8 t.target.toNat, .string t.mark, .string t.acts]) := rfl
      have HZ : Hid (zJ st th act cl (j + 1) = if mts (lefB st act h.q) (zJ st th act cl j).2 = true then zJ st th act cl j else ((zJ st th act cl j).1 ++ [n], unK (zJ st th act cl j).2 (lefB st act h.q) 26)) := by
        show _ = _; rw [zJ_succ hn]; unfold wc1; rw [hh]
      have hzl := zJ_len (st := st) (th := th) (act := act) (cl := cl) j
      have HLV : Hid (∀ w', Fr (fun _ => False) wr w' → Calls Tryz.prog 56 #[.pointer (some ⟨M.gb, 0, none⟩), .agg #[.int .i64 t.from_, .int .u8 t.event.toNat, .string t.conds, .int .u8 t.target.toNat, .string t.mark, .string t.acts]] w' fun e w'' => ∃ lb, e = .returned (.slice (some ⟨lb, 0, none⟩) M.c.sts.length M.c.sts.length) ∧ Blk w'' lb (bV (onOf M.c.sts.length (lefB st act h.q))).toArray 4 ∧ w'.heap.size ≤ lb ∧ Fr (fun _ => False) w' w'') := fun w' f => by
        have h1 := dleaves_any w' M st act me o hal (hgr.fr0 f) HK.out HTR.out t h.q hq
        rwa [HTC.out] at h1
      have HLH : Hid (NoHi M.c.sts.length (lefB st act h.q)) := by show NoHi _ _; rw [HL.out]; exact lef_hi HHI.out h.q
      have HNJ : Hid (cl[j]? = some n) := hn
      generalize zJ st th act cl j = z at *
      generalize lefB st act h.q = L at *
      clear hx hh hq hv4 hn hnl
      go_wp2_with fail
      go_region_with (go_at_call 56; refine Calls.mono (HLV.out _ ?_) ?_; (repeat (first | exact Fr.refl _ _ | assumption | refine Fr.drewNr ?_ _ | refine Fr.drewr ?_ | refine Fr.allocr ?_ _ | refine Fr.setCellr ?_ _ _ (by first | exact Or.inl rfl | (right; simp; done) | (right; simp; omega)))); rintro e w3 ⟨lb, rfl, hlb, hlo, hf3⟩)
      all_goals
        have hf3' : Fr (fun _ => False) wr w3 := Fr.thenr (by (repeat (first | exact Fr.refl _ _ | assumption | refine Fr.drewNr ?_ _ | refine Fr.drewr ?_ | refine Fr.allocr ?_ _ | refine Fr.setCellr ?_ _ _ (by first | exact Or.inl rfl | (right; simp; done) | (right; simp; omega))))) hf3 (fun _ _ h => h)
        have hlo' : wr.heap.size ≤ lb := by simpa using hlo
        have hgl := Blk.lt hgo
        have hgo3 := Blk.fr hgo hf3' (fun h => h)
        have hrow3 := row_fr HR.out hf3' (fun _ _ h => h)
        have hfr3 : Fr (· = gq) W2 w3 := hfr.thenr hf3' (fun _ _ h => h.elim)
        have hrlt : ∀ b, (Value.slice ra z.1.length rk).ownBlock = some b → b < wr.heap.size := by rw [← HCV.out]; exact hrlt0
        have hownR : ∀ b, (Value.slice ra z.1.length rk).ownBlock = some b → W2.heap.size ≤ b := by rw [← HCV.out]; exact hown
        rw [HCV.out] at hrow3
        clear hf3 hlo t0 t1 t2 t3 t4 t5 c0 c1 hcell HLV hr4
        go_wp2_with fail
        go_loopw [10, 11] (fun vb vi w4 => ∃ (i : Nat) (b : Bool), i ≤ M.c.sts.length ∧ vi = .int .i64 i ∧ vb = .bool b ∧ Hid (b = !(firstB (fun i => mem L i && mem z.2 i) i).isSome) ∧ Fr (fun _ => False) w3 w4) (fun _ vi _ => M.c.sts.length - (intOf vi).toNat)
        case atStart => exact ⟨0, true, Nat.zero_le _, rfl, rfl, rfl, Fr.refl _ _⟩
        case round =>
          obtain ⟨i, b, hi, rfl, rfl, HB, hf4⟩ := hrel
          have hlb4 := Blk.fr hlb hf4 (fun h => h)
          have hgo4 := Blk.fr hgo3 hf4 (fun h => h)
          have hrow4 := row_fr hrow3 hf4 (fun _ _ h => h)
          have hfr4 : Fr (· = gq) W2 _ := hfr3.thenr hf4 (fun _ _ h => h.elim)
          have hsz4 := hf4.size
          have hsz3 := hf3'.size
          rename World => w4
          by_cases hil : (i : Int) < M.c.sts.length
          · have hil' : i < M.c.sts.length := by omega
            have s1 : w4.cell? ⟨lb, i, none⟩ = some (.bool (mem L i)) := by rw [Blk.cell hlb4, onOf_cell _ _ _ hil']
            have s2 : w4.cell? ⟨gq, i, none⟩ = some (.bool (mem z.2 i)) := by rw [Blk.cell hgo4, onOf_cell _ _ _ hil']
            have HST : Hid ((firstB (fun i => mem L i && mem z.2 i) (i + 1)).isSome = ((firstB (fun i => mem L i && mem z.2 i) i).isSome || (mem L i && mem z.2 i))) := firstB_or _ i
            cases h1 : mem L i with
            | false =>
              rw [h1] at s1
              have HB2 : Hid (b = !(firstB (fun i => mem L i && mem z.2 i) (i + 1)).isSome) := by show _ = _; rw [HST.out, h1, HB.out]; simp
              clear h1 HST HB
              go_wp2_with fail
              go_roundw
              case rel => exact ⟨i + 1, b, by omega, by go_num, rfl, HB2, hf4⟩
              case measure => simp [intOf]; omega
            | true =>
              rw [h1] at s1
              cases h2 : mem z.2 i with
              | false =>
                rw [h2] at s2
                have HB2 : Hid (b = !(firstB (fun i => mem L i && mem z.2 i) (i + 1)).isSome) := by show _ = _; rw [HST.out, h1, h2, HB.out]; simp
                clear h1 h2 HST HB
                go_wp2_with fail
                go_roundw
                case rel => exact ⟨i + 1, b, by omega, by go_num, rfl, HB2, hf4⟩
                case measure => simp [intOf]; omega
              | true =>
                rw [h2] at s2
                have HB2 : Hid (false = !(firstB (fun i => mem L i && mem z.2 i) (i + 1)).isSome) := by show _ = _; rw [HST.out, h1, h2]; simp
                clear h1 h2 HST HB
                go_wp2_with fail
                go_roundw
                case rel => exact ⟨i + 1, false, by omega, by go_num, rfl, HB2, hf4⟩
                case measure => simp [intOf]; omega
          · have HMT : Hid (mts L z.2 = !b) := by
              show _ = _
              rw [mts_lo HLH.out hl3, HB.out, show i = M.c.sts.length by omega]; simp
            clear HB
            cases b with
            | false =>
              have HN2 : Hid (zJ st th act cl (j + 1) = z) := by show _ = _; rw [HZ.out, if_pos (by rw [HMT.out]; rfl)]
              clear HMT
              go_wp2_with fail
              go_roundw
              case rel => exact ⟨j + 1, _, by omega, by go_num, rfl, by rw [HN2.out]; exact hrow4, hownR, by rw [HN2.out]; exact hgo4, hfr4⟩
              case measure => simp [intOf]; omega
            | true =>
              have HN2 : Hid (zJ st th act cl (j + 1) = (z.1 ++ [n], unK z.2 L 26)) := by show _ = _; rw [HZ.out, if_neg (by rw [HMT.out]; decide)]
              have hrc4 := row_fr hrc (hf3'.thenr hf4 (fun _ _ h => h)) (fun _ _ h => h)
              have hcell4 := (row_cell hrc4 j (.int .i64 (n : Int)) (by simp [inV, HNJ.out])).1
              have hrowA := row_fr hrow4 (Fr.alloc (fun _ => False) w4 (.cells #[.int .i64 n] 3)) (fun _ _ h => h)
              clear HMT
              go_wp2_with (at_builtin; go_must (refine wpList_append1 rfl _ _ _ rfl _ 1 8 elemInt _ z.1.length (inV z.1) rfl hrowA ⟨w4.heap.size, 0, none⟩ 1 [.int .i64 (n : Int)] rfl rfl (by exact cells_new (Blk.new' _ _ _ _ (by simp))) (by intro u hu; simp at hu; subst hu; rfl) (by unfold maxLen; omega) (by omega) ?_); intro g cap w5 hrow5 hgrow hgo5')
              have hgrF := Fr.grown (fun b => (Value.slice ra z.1.length rk).ownBlock = some b) hgrow (fun _ e => e)
              have hgo5 := Blk.fr (Blk.alloc hgo4 (.cells #[.int .i64 n] 3)) hgrF (fun e => by have := hownR gq e; omega)
              have hlb5 := Blk.fr (Blk.alloc hlb4 (.cells #[.int .i64 n] 3)) hgrF (fun e => by have := hrlt lb e; omega)
              have hfr5 : Fr (· = gq) W2 w5 := (hfr4.allocr (.cells #[.int .i64 n] 3)).trans hgrF (fun _ _ h => h) (fun i hi e => by have := hownR i e; omega)
              have hown5 : ∀ b, (Value.slice (some ⟨g, 0, none⟩) (z.1.length + 1) cap).ownBlock = some b → W2.heap.size ≤ b := by
                intro b hb
                simp only [Value.ownBlock, Option.some.injEq] at hb
                subst hb
                have hszz := hfr4.size
                rcases hgo5' with h | h
                · exact hownR _ h
                · simp at h; omega
              have hgne : ∀ b, (Value.slice (some ⟨g, 0, none⟩) (z.1.length + 1) cap).ownBlock = some b → ¬ b = gq := fun b hb e => by have := hown5 b hb; omega
              go_wp2_with fail
              go_loopw [12] (fun vi w6 => ∃ i : Nat, i ≤ M.c.sts.length ∧ vi = .int .i64 i ∧ Blk w6 gq (bV (jnK z.2 L M.c.sts.length i)).toArray 4 ∧ Blk w6 lb (bV (onOf M.c.sts.length L)).toArray 4 ∧ Fr (· = gq) w5 w6) (fun vi _ => M.c.sts.length - (intOf vi).toNat)
              case atStart => exact ⟨0, Nat.zero_le _, rfl, by rw [jnK_0]; exact hgo5, hlb5, Fr.refl _ _⟩
              case round =>
                obtain ⟨i, hi, rfl, hgi, hli, hfi⟩ := hrel
                rename World => w6
                by_cases hil : (i : Int) < M.c.sts.length
                · have hil' : i < M.c.sts.length := by omega
                  have s1 : w6.cell? ⟨gq, i, none⟩ = some (.bool (mem z.2 i)) := by rw [Blk.cell hgi, jnK_cell _ _ _ _ _ hil', if_neg (by omega)]
                  have s2 : w6.cell? ⟨lb, i, none⟩ = some (.bool (mem L i)) := by rw [Blk.cell hli, onOf_cell _ _ _ hil']
                  have s3 := Blk.frozen hgi i
                  have s4 := Blk.lt hgi
                  have HST : Hid _ := jnK_set z.2 L M.c.sts.length i hil'
                  cases h1 : mem z.2 i with
                  | true =>
                    rw [h1] at s1
                    rw [h1, Bool.true_or] at HST
                    clear h1
                    go_wp2_with fail
                    go_roundw
                    case rel => exact ⟨i + 1, by omega, by go_num, by rw [← HST.out]; exact Blk.set hgi i _, Blk.other hli _ _ (by show lb ≠ gq; omega), hfi.setCellr ⟨gq, i, none⟩ _ (Or.inl rfl)⟩
                    case measure => simp [intOf]; omega
                  | false =>
                    rw [h1] at s1
                    rw [h1, Bool.false_or] at HST
                    clear h1
                    generalize mem L i = B at s2 HST
                    go_wp2_with fail
                    go_roundw
                    case rel => exact ⟨i + 1, by omega, by go_num, by rw [← HST.out]; exact Blk.set hgi i _, Blk.other hli _ _ (by show lb ≠ gq; omega), hfi.setCellr ⟨gq, i, none⟩ _ (Or.inl rfl)⟩
                    case measure => simp [intOf]; omega
                · have hin : i = M.c.sts.length := by omega
                  rw [hin, jnK_n _ _ _ hl3] at hgi
                  have hrow6 := row_fr hrow5 hfi (fun b hb e => hgne b hb e)
                  clear hin
                  go_wp2_with fail
                  go_roundw
                  case rel =>
                    refine ⟨j + 1, _, by omega, by go_num, rfl, ?_, hown5, ?_, hfr5.trans hfi (fun _ _ h => h) (fun _ _ h => h)⟩
                    · rw [HN2.out]; simpa [inV] using hrow6
                    · rw [HN2.out]; exact hgi
                  case measure => simp [intOf]; omega
    · have hje : j = cl.length := by omega
      have HE : Hid (tkn st th act ev = (zJ st th act cl j).1) := by show _ = _; rw [HTK.out, hje]
      clear hje
      go_wp2_with fail
      go_ret
      refine ⟨_, rfl, hfo, ?_, ?_⟩
      · rw [HE.out, ← HCV.out]; exact HR.out
      · rw [← HCV.out]; intro b hb; have := hown b hb; omega
end Go.Proofs.YtmolmbeeoecnfaaGreatDoor
