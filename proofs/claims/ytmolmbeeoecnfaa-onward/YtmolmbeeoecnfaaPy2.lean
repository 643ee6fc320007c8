/- Own work: walks of sets: isEmpty, meets, with; of the plan: scope. -/
import Derived.Test.YtmolmbeeoecnfaaPy1
import Derived.Deep.MidRow
import Derived.ChangeKeysEq
namespace Go.Proofs.Ytmolmbeeoecnfaa
open Go.RowKit Go.BigFrame
set_option linter.unusedVariables false
set_option linter.unusedSimpArgs false

def TrQ.tsN (t : TrQ) : Nat := t.ts.toNat
/-- The chain outward from s: the first or-state that has the target below it. -/
def scF (st : List StP) (ts : Nat) : Nat → Int → Int
  | 0, _ => -1
  | f + 1, s => if s = -1 then -1 else if kindAt st s.toNat == 1 && isB st ts s.toNat then s else scF st ts f (outAt st s.toNat)
def scOf (st : List StP) (t : TrQ) : Int := scF st t.ts.toNat (st.length + 1) (outAt st t.own)

theorem bV_len (l : List Bool) : (bV l).length = l.length := by simp [bV]
theorem rangeB {w : World} {b : Nat} {cs : List Value} {t : TypeId} (h : Blk w b cs.toArray t) : w.rangeAt b 0 cs := fun j v hv => by
  rw [Blk.cell h]; simpa using hv
theorem setInfo {l : List Bool} (hl : l.length = 26) : (Try.prog.info? 73).map (·.size) = some (bV l).length := by
  rw [bV_len, hl]; kernel_rfl

theorem run_eqB (w : World) (l m : List Bool) (c : Nat) (hc : c = 1) : ∀ is : List Nat, (∀ i ∈ is, i < l.length ∧ i < m.length) →
    (Op.eqItems 9999 4 c (bV l).toArray (bV m).toArray is).run Try.prog w = .ok (is.all fun i => mem l i == mem m i) w
  | [], _ => by simp [Op.eqItems]
  | i :: is, h => by
    subst hc
    have h1 := h i (by simp)
    have pk : Try.prog.plainKey 4 = true := by kernel_rfl
    have g1 : (bV l).toArray[i * 1]? = some (.bool (mem l i)) := by simp [bV, mem, h1.1]
    have g2 : (bV m).toArray[i * 1]? = some (.bool (mem m i)) := by simp [bV, mem, h1.2]
    have ih := run_eqB w l m 1 rfl is (fun j hj => h j (by simp [hj]))
    simp only [Op.eqItems, Sem.run_bind, run_part_plain w pk g1, run_part_plain w pk g2, Result.andThen_ok, run_equalIn_bool w 9998 4 _ _ Try.underlying4, List.all_cons]
    cases hq : (mem l i == mem m i)
    · simp
    · simpa using ih
theorem run_eqSet (w : World) (l m : List Bool) (hl : l.length = 26) (hm : m.length = 26) :
    (Op.equalIn 10000 73 (.agg (bV l).toArray) (.agg (bV m).toArray)).run Try.prog w = .ok ((List.range 26).all fun i => mem l i == mem m i) w := by
  obtain ⟨i, h0⟩ : ∃ i, Try.prog.info? 4 = some i := by
    cases h : Try.prog.info? 4 with
    | none => exact absurd (show (Try.prog.info? 4).isSome = true by kernel_rfl) (by rw [h]; simp)
    | some i => exact ⟨i, rfl⟩
  rw [run_equalIn_array w 9999 _ _ Try.underlying73 h0]
  exact run_eqB w l m _ (by kernel_rfl) _ (fun i hi => by rw [hl, hm]; simpa using hi)
def noSet : List Bool := List.replicate 26 false
theorem mem_no (k : Nat) : mem noSet k = false := by
  unfold mem noSet
  rw [List.getElem?_replicate]
  split <;> simp_all
def emp (l : List Bool) : Bool := (List.range 26).all fun i => !mem l i

theorem run_eqNo (w : World) (l : List Bool) (hl : l.length = 26) : (Op.equalIn 10000 73 (.agg (bV l).toArray) (.agg #[.bool false, .bool false, .bool false, .bool false, .bool false, .bool false, .bool false, .bool false, .bool false, .bool false, .bool false, .bool false, .bool false, .bool false, .bool false, .bool false, .bool false, .bool false, .bool false, .bool false, .bool false, .bool false, .bool false, .bool false, .bool false, .bool false])).run Try.prog w = .ok (emp l) w := by
  refine (run_eqSet w l noSet hl (by simp [noSet])).trans ?_
  have h : (fun i => mem l i == mem noSet i) = fun i => !mem l i := by funext i; rw [mem_no]; cases mem l i <;> rfl
  rw [h]; rfl

set_option maxRecDepth 100000 in
set_option maxHeartbeats 1000000 in
theorem isEmpty_any (w : World) (l : List Bool) (hl : l.length = 26) :
    Calls Try.prog 53 #[setV l] w fun e w' => e = .returned (.bool (emp l)) ∧ Fr (fun _ => False) w w' := by
  unfold setV
  have hb := rangeB (Blk.new w (bV l).toArray 73)
  have hi := setInfo hl
  have he := fun W => run_eqNo W l hl
  go_enter Try.func53, Try.ntmps53
  go_wp2_with (refine wpList_load_mid rfl 73 _ rfl _ _ rfl _ _ (by assumption) Try.underlying73 rfl (by assumption) ?_)
  go_ret
  exact ⟨rfl, by (repeat (first | exact Fr.refl _ _ | assumption | refine Fr.drewNr ?_ _ | refine Fr.drewr ?_ | refine Fr.allocr ?_ _ | refine Fr.setCellr ?_ _ _ (by first | exact Or.inl rfl | (right; simp; done) | (right; simp; omega))))⟩

def mts (l m : List Bool) : Bool := (firstB (fun k => mem l k && mem m k) 26).isSome
theorem ret_b {a b : Bool} (h : a = b) : Ending.returned (.bool a) = .returned (.bool b) := by rw [h]

set_option maxRecDepth 100000 in
set_option maxHeartbeats 1000000 in
theorem meets_any (w : World) (l m : List Bool) (hl : l.length = 26) (hm : m.length = 26) :
    Calls Try.prog 76 #[setV l, setV m] w fun e w' => e = .returned (.bool (mts l m)) ∧ Fr (fun _ => False) w w' := by
  unfold setV
  have b1 : Blk ((w.alloc (.cells (bV l).toArray 73)).alloc (.cells (bV m).toArray 73)) w.heap.size (bV l).toArray 73 := (Blk.new _ _ _).alloc _
  have b2 : Blk ((w.alloc (.cells (bV l).toArray 73)).alloc (.cells (bV m).toArray 73)) (w.heap.size + 1) (bV m).toArray 73 := Blk.new' _ _ _ _ (by simp)
  have hfw : Fr (fun _ => False) w ((w.alloc (.cells (bV l).toArray 73)).alloc (.cells (bV m).toArray 73)) := by (repeat (first | exact Fr.refl _ _ | assumption | refine Fr.drewNr ?_ _ | refine Fr.drewr ?_ | refine Fr.allocr ?_ _ | refine Fr.setCellr ?_ _ _ (by first | exact Or.inl rfl | (right; simp; done) | (right; simp; omega))))
  go_enter Try.func76, Try.ntmps76
  go_wp2_with fail
  have HL : Hid (l.length = 26) := hl
  have HM : Hid (m.length = 26) := hm
  clear hl hm
  generalize ((w.alloc (.cells (bV l).toArray 73)).alloc (.cells (bV m).toArray 73)) = W at *
  go_loopw [6] (fun i wr => ∃ k : Nat, k ≤ 26 ∧ i = .int .i64 k ∧ Hid (∀ j, j < k → (mem l j && mem m j) = false) ∧ Fr (fun _ => False) W wr) (fun i _ => 26 - (intOf i).toNat)
  case atStart => exact ⟨0, by omega, rfl, fun j hj => by omega, Fr.refl _ _⟩
  case round =>
    obtain ⟨k, hk, rfl, HJ, hfr⟩ := hrel
    have hfo := hfw.thenr hfr (fun _ _ h => h)
    by_cases hlt : (k : Int) < 26
    · have c1 := mem_cell (k := k) (Blk.fr b1 hfr (fun h => h)) (by rw [HL.out]; omega)
      have c2 := mem_cell (k := k) (Blk.fr b2 hfr (fun h => h)) (by rw [HM.out]; omega)
      cases h1 : mem l k with
      | false =>
        rw [h1] at c1
        go_wp2_with fail
        go_roundw
        case rel => exact ⟨k + 1, by omega, by go_num, below_step HJ.out (by simp [h1]), hfr⟩
        case measure => simp [intOf]; omega
      | true =>
        rw [h1] at c1
        cases h2 : mem m k with
        | false =>
          rw [h2] at c2
          go_wp2_with fail
          go_roundw
          case rel => exact ⟨k + 1, by omega, by go_num, below_step HJ.out (by simp [h2]), hfr⟩
          case measure => simp [intOf]; omega
        | true =>
          rw [h2] at c2
          have HI : Hid (mts l m = true) := by
            show _ = _
            rw [mts, firstB_some (fun k => mem l k && mem m k) k (by simp [h1, h2]) HJ.out 26 (by omega)]; rfl
          go_wp2_with fail
          go_ret
          exact ⟨ret_b HI.out.symm, hfo⟩
    · have HI : Hid (mts l m = false) := by
        show _ = _
        rw [mts, firstB_none (fun k => mem l k && mem m k) 26 (fun j hj => HJ.out j (by omega))]; rfl
      go_wp2_with fail
      go_ret
      exact ⟨ret_b HI.out.symm, hfo⟩

def unK (l m : List Bool) (k : Nat) : List Bool := (List.range 26).map fun i => if i < k then mem l i || mem m i else mem l i
theorem unK_len (l m : List Bool) (k : Nat) : (unK l m k).length = 26 := by simp [unK]
theorem unK_0 (l m : List Bool) (hl : l.length = 26) : unK l m 0 = l := by
  apply List.ext_getElem? ; intro i
  by_cases h : i < 26
  · simp [unK, h, mem, hl]
  · rw [List.getElem?_eq_none (by simp [unK]; omega), List.getElem?_eq_none (by omega)]
theorem mem_unK (l m : List Bool) (k i : Nat) (h : i < 26) : mem (unK l m k) i = if i < k then mem l i || mem m i else mem l i := by
  conv => lhs; unfold mem
  simp [unK, h]
theorem unK_set (l m : List Bool) (k : Nat) (h : k < 26) : (bV (unK l m k)).toArray.setIfInBounds k (.bool (mem l k || mem m k)) = (bV (unK l m (k + 1))).toArray := by
  apply Array.ext_getElem?
  intro i
  rw [Array.getElem?_setIfInBounds]
  by_cases hi : i < 26
  · by_cases e : k = i
    · subst e; simp [bV, unK, h]
    · simp only [e, if_false]
      simp only [bV, unK, List.getElem?_toArray, List.getElem?_map, List.map_map, List.getElem?_range hi, Option.map_some, Function.comp]
      by_cases h2 : i < k
      · simp [h2, Nat.lt_succ_of_lt h2]
      · have : ¬ i < k + 1 := by omega
        simp [h2, this]
  · have e : ¬ k = i := by omega
    simp only [e, if_false]
    rw [Array.getElem?_eq_none (by simp [bV, unK]; omega), Array.getElem?_eq_none (by simp [bV, unK]; omega)]

/-! Many cells of a block written at once. -/
def setsA (c : Array Value) : Nat → List Value → Array Value
  | _, [] => c
  | o, v :: r => setsA (c.setIfInBounds o v) (o + 1) r
theorem Blk.sets {b : Nat} {e : TypeId} : ∀ (vs : List Value) (o : Nat) {w : World} {c : Array Value}, Blk w b c e → Blk (w.setCells b o vs) b (setsA c o vs) e
  | [], _, _, _, h => h
  | v :: r, o, _, _, h => Blk.sets r (o + 1) (h.set o v)
theorem setsA_size : ∀ (vs : List Value) (o : Nat) (c : Array Value), (setsA c o vs).size = c.size
  | [], _, _ => rfl
  | v :: r, o, c => by rw [setsA, setsA_size r]; simp
theorem setsA_get : ∀ (vs : List Value) (o : Nat) (c : Array Value) (i : Nat), o + vs.length ≤ c.size → (setsA c o vs)[i]? = if o ≤ i ∧ i < o + vs.length then vs[i - o]? else c[i]?
  | [], o, c, i, _ => by simp only [setsA, List.length_nil, Nat.add_zero]; rw [if_neg (by omega)]
  | v :: r, o, c, i, h => by
    simp only [List.length_cons] at h
    rw [setsA, setsA_get r (o + 1) _ i (by simp; omega), Array.getElem?_setIfInBounds]
    simp only [List.length_cons]
    by_cases h1 : o = i
    · subst h1
      rw [if_neg (by omega), if_pos rfl, if_pos (by omega), if_pos (by omega)]
      simp
    · by_cases h2 : o + 1 ≤ i ∧ i < o + 1 + r.length
      · rw [if_pos h2, if_pos (by omega), show i - o = (i - (o + 1)) + 1 by omega]; simp
      · rw [if_neg h2, if_neg h1, if_neg (by omega)]
theorem setsA_all (c : Array Value) (vs : List Value) (h : c.size = vs.length) : setsA c 0 vs = vs.toArray := by
  apply Array.ext_getElem?
  intro i
  rw [setsA_get vs 0 c i (by omega)]
  by_cases h1 : i < vs.length
  · rw [if_pos (by omega)]; simp
  · rw [if_neg (by omega), Array.getElem?_eq_none (by omega), Array.getElem?_eq_none (by simp; omega)]
theorem Fr.setsr {S : Nat → Prop} {a : World} {b : Nat} (hp : S b ∨ a.heap.size ≤ b) : ∀ (vs : List Value) (o : Nat) {w : World}, Fr S a w → Fr S a (w.setCells b o vs)
  | [], _, _, h => h
  | v :: r, o, _, h => Fr.setsr hp r (o + 1) (h.setCellr ⟨b, o, none⟩ v hp)
theorem there_of {w : World} {b n : Nat} {c : Array Value} {e : TypeId} (h : Blk w b c e) (o : Nat) (hn : o + n ≤ c.size) : w.there b o n := fun j hj => by
  rw [Blk.cell h, Blk.frozen h]
  refine ⟨?_, rfl⟩
  rw [Array.getElem?_eq_getElem (by omega)]; rfl
theorem one_bV (l : List Bool) : (bV l).toArray.all (·.oneCell') = true := all_oneCell_toArray (fun v hv => by
  obtain ⟨x, -, rfl⟩ := List.mem_map.1 hv; rfl)
theorem setInfo' {l : List Bool} (hl : l.length = 26) : (Try.prog.info? 73).map (·.size) = some (bV l).toArray.size := by
  rw [List.size_toArray]; exact setInfo hl
theorem results_cell1 {fn : Func} {p : Tmp} {ty : TypeId} (h : fn.results = #[.cell p ty]) (tmps : Array Value) (P : Program) (w : World) :
    (results fn tmps).run P w = ((asAddr (tmps.getD p undef)).run P w).andThen fun a w₁ => (loadVar ty a).run P w₁ := by
  simp only [results, h]
  simp [Sem.run_bind, Result.andThen]
theorem ret_setC {fn : Func} {p b : Nat} {w : World} {l : List Bool} {tmps : Array Value} (h : fn.results = #[.cell p 73]) (hp : tmps.getD p undef = .pointer (some ⟨b, 0, none⟩)) (hb : Blk w b (bV l).toArray 73) (hl : l.length = 26) :
    (results fn tmps).run Try.prog w = .ok (setV l) w := by
  rw [results_cell1 h, hp]
  simp only [asAddr, Sem.run_pure, Result.andThen_ok]
  exact run_loadVar_mid w b 0 73 (bV l) _ (rangeB hb) Try.underlying73 rfl (setInfo hl)

set_option maxRecDepth 100000 in
set_option maxHeartbeats 1000000 in
theorem with_any (w : World) (l m : List Bool) (hl : l.length = 26) (hm : m.length = 26) :
    Calls Try.prog 77 #[setV l, setV m] w fun e w' => e = .returned (setV (unK l m 26)) ∧ Fr (fun _ => False) w w' := by
  unfold setV
  have b1 : Blk (((w.alloc (.cells (bV l).toArray 73)).alloc (.cells (bV m).toArray 73)).alloc (.cells (bV noSet).toArray 73)) w.heap.size (bV l).toArray 73 := ((Blk.new _ _ _).alloc _).alloc _
  have b2 : Blk (((w.alloc (.cells (bV l).toArray 73)).alloc (.cells (bV m).toArray 73)).alloc (.cells (bV noSet).toArray 73)) (w.heap.size + 1) (bV m).toArray 73 := (Blk.new' _ _ _ _ (by simp)).alloc _
  have b3 : Blk (((w.alloc (.cells (bV l).toArray 73)).alloc (.cells (bV m).toArray 73)).alloc (.cells (bV noSet).toArray 73)) (w.heap.size + 1 + 1) (bV noSet).toArray 73 := Blk.new' _ _ _ _ (by simp)
  have hfw : Fr (fun _ => False) w (((w.alloc (.cells (bV l).toArray 73)).alloc (.cells (bV m).toArray 73)).alloc (.cells (bV noSet).toArray 73)) := by (repeat (first | exact Fr.refl _ _ | assumption | refine Fr.drewNr ?_ _ | refine Fr.drewr ?_ | refine Fr.allocr ?_ _ | refine Fr.setCellr ?_ _ _ (by first | exact Or.inl rfl | (right; simp; done) | (right; simp; omega))))
  go_enter Try.func77, Try.ntmps77
  go_wp2_with (refine wpList_load_mid rfl 73 _ rfl _ _ rfl _ _ (by assumption) Try.underlying73 rfl (by assumption) ?_)
  show Code.wp _ _ _ _ (((w.alloc (.cells (bV l).toArray 73)).alloc (.cells (bV m).toArray 73)).alloc (.cells (bV noSet).toArray 73))
  have HL : Hid (l.length = 26) := hl
  have HM : Hid (m.length = 26) := hm
  clear hl hm
  have HN : Hid (unK l m 0 = l) := unK_0 l m HL.out
  generalize (((w.alloc (.cells (bV l).toArray 73)).alloc (.cells (bV m).toArray 73)).alloc (.cells (bV noSet).toArray 73)) = W at *
  go_loopw [6] (fun i wr => ∃ k : Nat, k ≤ 26 ∧ i = .int .i64 k ∧ Blk wr w.heap.size (bV (unK l m k)).toArray 73 ∧ Fr (· = w.heap.size) W wr) (fun i _ => 26 - (intOf i).toNat)
  case atStart => exact ⟨0, by omega, rfl, by rw [HN.out]; exact b1, Fr.refl _ _⟩
  case round =>
    obtain ⟨k, hk, rfl, hbk, hfr⟩ := hrel
    have hb2 := Blk.fr b2 hfr (by omega)
    have hb3 := Blk.fr b3 hfr (by omega)
    by_cases hlt : (k : Int) < 26
    · have c1 := mem_cell (k := k) hbk (by rw [unK_len]; omega)
      have c2 := mem_cell (k := k) hb2 (by rw [HM.out]; omega)
      have z1 := Blk.frozen hbk k
      rw [mem_unK l m k k (by omega), if_neg (by omega)] at c1
      have hnx : Blk (wr.setCell ⟨w.heap.size, k, none⟩ (.bool (mem l k || mem m k))) w.heap.size (bV (unK l m (k + 1))).toArray 73 := by
        rw [← unK_set l m k (by omega)]; exact Blk.set hbk k _
      have HX : Hid _ := hnx
      clear hnx hb2 hb3
      cases h1 : mem l k with
      | true =>
        rw [h1] at c1
        rw [h1, Bool.true_or] at HX
        go_wp2_with fail
        go_roundw
        case rel => exact ⟨k + 1, by omega, by go_num, HX.out, hfr.setCellr _ _ (Or.inl rfl)⟩
        case measure => simp [intOf]; omega
      | false =>
        rw [h1] at c1
        rw [h1, Bool.false_or] at HX
        go_wp2_with fail
        go_roundw
        case rel => exact ⟨k + 1, by omega, by go_num, HX.out, hfr.setCellr _ _ (Or.inl rfl)⟩
        case measure => simp [intOf]; omega
    · have hk26 : k = 26 := by omega
      subst hk26
      have hra := rangeB hbk
      have hin := setInfo (unK_len l m 26)
      have hin' := setInfo' (unK_len l m 26)
      have hone := one_bV (unK l m 26)
      have hth : wr.there (w.heap.size + 1 + 1) 0 (bV (unK l m 26)).toArray.size := there_of hb3 0 (by simp [bV, unK, noSet])
      go_wp2_with (first | (refine wpList_load_mid rfl 73 _ rfl _ _ rfl _ _ (by assumption) Try.underlying73 rfl (by assumption) ?_) | (refine wpList_store_mid rfl 73 _ _ rfl _ _ _ rfl rfl (by assumption) (by assumption) (by assumption) ?_))
      have hbz : Blk (wr.setCells (w.heap.size + 1 + 1) 0 (bV (unK l m 26))) (w.heap.size + 1 + 1) (bV (unK l m 26)).toArray 73 := by
        rw [← setsA_all (bV noSet).toArray (bV (unK l m 26)) (by simp [bV, unK, noSet])]; exact Blk.sets _ 0 hb3
      refine bodyPost_ret (v := setV (unK l m 26)) (ret_setC rfl rfl hbz (unK_len l m 26)) rfl ⟨rfl, ?_⟩
      have h2 : Fr (fun _ => False) w wr := hfw.trans hfr (fun _ _ h => h) (fun i hi e => by omega)
      exact Fr.setsr (Or.inr (by omega)) _ 0 h2
end Go.Proofs.Ytmolmbeeoecnfaa
