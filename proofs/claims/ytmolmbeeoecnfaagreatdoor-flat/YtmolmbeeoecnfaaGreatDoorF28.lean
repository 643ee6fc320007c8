/- Own work: CoZ, CoW6, CoX. -/
import Derived.Test.YtmolmbeeoecnfaaGreatDoorF24
import Derived.Deep.AppendSrc
import Derived.Test.YtmolmbeeoecnfaaGreatDoorF27
/- Own work: a text that may have begun as a string's bytes: appending to it. -/
namespace Go.Proofs.YtmolmbeeoecnfaaGreatDoor
open Go.RowKit Go.BigFrame
set_option linter.unusedVariables false
set_option linter.unusedSimpArgs false

structure TxZ (w : World) (B : Nat) (v : Value) (xs : List Value) : Prop where
 ex : ∃ g cap, v = .slice (some ⟨g, 0, none⟩) xs.length cap ∧ B ≤ g ∧ g < w.heap.size ∧ xs.length ≤ cap ∧ cap ≤ maxLen ∧ (∀ j u, xs[j]? = some u → w.cell? ⟨g, j, none⟩ = some u) ∧ ∀ j, j < cap → (w.cell? ⟨g, j, none⟩).isSome = true ∧ w.frozen? ⟨g, j, none⟩ = false
theorem TxZ.fr {w w' : World} {B : Nat} {v : Value} {xs : List Value} (h : TxZ w B v xs) (f : Fr (fun _ => False) w w') : TxZ w' B v xs := by
 obtain ⟨g, cap, e, h1, h2, h3, h4, h5, h6⟩ := h.ex
 have hb := f.block g h2 (fun h => h)
 refine ⟨g, cap, e, h1, Nat.lt_of_lt_of_le h2 f.size, h3, h4, fun j u hu => ?_, fun j hj => ?_⟩
 ·rw [World.cell?_of_block (a := ⟨g, j, none⟩) hb]; exact h5 j u hu
 ·rw [World.cell?_of_block (a := ⟨g, j, none⟩) hb, World.frozen?_of_block (a := ⟨g, j, none⟩) hb]; exact h6 j hj
theorem wpList_appZ {P : Program} {w : World} {ops : Array Oper} {rest : List Oper} {o : Oper} {a : Act} {Q : Exit → Act → World → Prop} (hgd : o.guard = none) (s x : Operand) (t tx : TypeId)
  (ho : o.op = .call { callee := .builtin .append, args := #[s, x], argTypes := #[t, tx] }) (e : TypeId) (he : ElemOk P t e 1 1) (B : Nat) (v : Value) (xs : List Value) (hv : a.eval s = v) (hZ : TxZ w B v xs)
  (xv : Value) (n : Nat) (news : List Value) (hx : a.eval x = xv) (hs : Src P 1 tx xv n news w) (hb : xs.length + n ≤ 140000000000000) (hB : B ≤ w.heap.size)
  (h : ∀ ra rc w', TxZ w' B (.slice ra (xs.length + n) rc) (xs ++ news) → Fr (fun k => B ≤ k) w w' → wpList P ops Q rest (a.put o.dst (.slice ra (xs.length + n) rc)) w') : wpList P ops Q (o :: rest) a w := by
 obtain ⟨g, cap, rfl, h1, h2, h3, h4, h5, h6⟩ := hZ.ex
 obtain ⟨ht, ⟨i, z, hi, hz, hsize, hby, hzs⟩, hsz⟩ := he
 refine wpList_plain hgd fun K hK => ?_
 have hnl : news.length = n := by have := hs.newsLen; omega
 have hlen : (xs ++ news).length = xs.length + n := by rw [List.length_append, hnl]
 have hs' : Src P i.size tx xv n news w := by rw [hsize]; exact hs
 by_cases hroom : xs.length + n ≤ cap
 ·have hth : ∀ j, j < news.length → (w.cell? ⟨g, xs.length + j, none⟩).isSome = true := fun j hj => (h6 _ (by omega)).1
  have hr := run_append_room_src (P := P) w t tx o.type e i ht hi g 0 xs.length cap xv n news hs' hroom (fun j hj => by rw [hsize, Nat.mul_one, Nat.zero_add]; exact hth j hj) (fun j hj => by rw [hsize, Nat.mul_one, Nat.zero_add]; exact (h6 _ (by omega)).2)
  rw [hsize, Nat.mul_one, Nat.zero_add] at hr
  unfold Oper.wp execOp
  simp only [ho, resolve, invoke, builtin, Sem.run_bind, Sem.run_pure, Result.andThen_ok, List.map_toArray, List.map_cons, List.map_nil, hv, hx, hr]
  refine hK _ _ (h _ _ _ ⟨g, cap, by rw [hlen], h1, by rw [sets_size]; exact h2, by omega, h4, fun j u hu => ?_, fun j hj => ?_⟩ (Fr.setsr (S := fun k => B ≤ k) (Or.inl h1) _ _ (Fr.refl _ _)))
  ·by_cases hj : j < xs.length
   ·rw [World.cell?_setCells_out g news xs.length w ⟨g, j, none⟩ (fun _ _ => Or.inl hj)]
    rw [List.getElem?_append_left hj] at hu
    exact h5 j u hu
   ·rw [List.getElem?_append_right (by omega)] at hu
    obtain ⟨q1, q2⟩ := List.getElem?_eq_some_iff.1 hu
    have q3 := World.cell?_setCells_in g news xs.length w hth (j - xs.length) q1
    rw [show xs.length + (j - xs.length) = j by omega] at q3
    rw [q3, q2]
  ·rw [World.frozen?_setCells]
   refine ⟨?_, (h6 j hj).2⟩
   by_cases hin : xs.length ≤ j ∧ j < xs.length + news.length
   ·have q3 := World.cell?_setCells_in g news xs.length w hth (j - xs.length) (by omega)
    rw [show xs.length + (j - xs.length) = j by omega] at q3
    rw [q3]; rfl
   ·rw [World.cell?_setCells_out g news xs.length w ⟨g, j, none⟩ (fun _ _ => by show j < _ ∨ _ ≤ j; omega)]
    exact (h6 j hj).1
 ·have hfc := run_firstCells_some (P := P) w.drew i.size xs.length ⟨g, 0, none⟩ xs.length cap xs (by rw [hsize, Nat.mul_one]) (fun j u hu => by rw [Addr.add_lit, Nat.zero_add]; exact h5 j u hu)
  have hr := run_append_grow_src (P := P) w t tx o.type e i z ht hi hz (some ⟨g, 0, none⟩) xs.length cap xs hfc xv n news hs' (by omega) (by omega) (growslice_fits (by omega) (by rw [hby]; omega))
  have hge := grownCap_ge w (xs.length + n) cap e
  have hcm2 : grownCap w (xs.length + n) cap e ≤ maxLen := grownCap_le_maxLen w (xs.length + n) cap e (by unfold maxLen; omega)
  generalize grownCap w (xs.length + n) cap e = gc at *
  unfold Oper.wp execOp
  simp only [ho, resolve, invoke, builtin, Sem.run_bind, Sem.run_pure, Result.andThen_ok, List.map_toArray, List.map_cons, List.map_nil, hv, hx, hr]
  have hC : ((xs ++ news).toArray ++ Builtin.zeroCells z.cells (gc - (xs.length + n))).size = gc := by
   simp only [Array.size_append, List.size_toArray, size_zeroCells, hzs, hlen, Nat.mul_one]
   omega
  have hbk := Blk.new w.drew ((xs ++ news).toArray ++ Builtin.zeroCells z.cells (gc - (xs.length + n))) e
  have hds : w.drew.heap.size = w.heap.size := rfl
  rw [hds] at hbk
  refine hK _ _ (h _ _ _ ⟨w.heap.size, gc, by rw [hlen], hB, ?_, by omega, hcm2, fun j u hu => ?_, fun j hj => ?_⟩ ((Fr.drew _ _).allocr _))
  ·exact Blk.lt hbk
  ·rw [Blk.cell hbk, Array.getElem?_append_left (by have := (List.getElem?_eq_some_iff.1 hu).1; simpa using this)]
   simpa using hu
  ·rw [Blk.cell hbk, Blk.frozen hbk, Array.getElem?_eq_getElem (by omega)]
   exact ⟨rfl, rfl⟩
theorem convZ (w : World) (s : ByteArray) (hs : s.size ≤ 1000000) : ∃ cap w', Sem.run Tryz.prog (convert 9 82 (.string s)) w = .ok (.slice (some ⟨w.heap.size, 0, none⟩) s.size cap) w' ∧ TxZ w' w.heap.size (.slice (some ⟨w.heap.size, 0, none⟩) s.size cap) (byV (bls s)) ∧ Fr (fun _ => False) w w' := by
 have hr := run_bytes_of_string (P := Tryz.prog) w 9 82 5 s Tryz.underlying9 Tryz.underlying82 Tryz.underlying5
 have hge := grownCap_ge w s.size 0 5
 have hcm : grownCap w s.size 0 5 ≤ maxLen := grownCap_le_maxLen w s.size 0 5 (by unfold maxLen; omega)
 have hR : (bytesRow s (grownCap w s.size 0 5)).size = grownCap w s.size 0 5 := by
  have : s.data.size = s.size := rfl
  simp only [bytesRow, Array.size_append, Array.size_map, Array.size_replicate, this]
  omega
 have hat : ∀ j, j < s.size → (bytesRow s (grownCap w s.size 0 5))[j]? = (byV (bls s))[j]? := fun j hj => by
  rw [bytesRow_at s _ j hj]
  have hj' : j < s.data.size := hj
  simp [byV, bls]
  rw [Array.getElem?_eq_getElem hj']; rfl
 refine ⟨_, _, hr, ?_, (Fr.drew _ _).allocr _⟩
 generalize grownCap w s.size 0 5 = gc at *
 generalize bytesRow s gc = R at *
 have hh : (w.drew.alloc (.cells R 5 (R.size, R.size + 1))).heap[w.heap.size]? = some (.cells R 5 (R.size, R.size + 1)) := heap_alloc_new w.drew _
 have hl : (byV (bls s)).length = s.size := by rw [byV, List.length_map, bls_len]
 refine ⟨w.heap.size, gc, by rw [hl], Nat.le_refl _, (Array.getElem?_eq_some_iff.1 hh).1, by omega, hcm, fun j u hu => ?_, fun j hj => ?_⟩
 ·have hj := (List.getElem?_eq_some_iff.1 hu).1
  rw [← hat j (by omega)] at hu
  simp only [World.cell?, hh]
  exact hu
 ·refine ⟨?_, ?_⟩
  ·simp only [World.cell?, hh]
   rw [Array.getElem?_eq_getElem (by omega)]; rfl
  ·simp only [World.frozen?, hh, Bool.and_eq_false_iff, decide_eq_false_iff_not]
   left; omega

def rowT (rows : List ByteArray) (i : Nat) : List UInt8 := match rows[i]? with
 | some r => if fiR rows r < i then 61 :: Lib.decDigits (fiR rows r) else bls r
 | none => []
def taK (es beg : ByteArray) (rows : List ByteArray) : Nat → List UInt8
 | 0 => ((bls es ++ [59]) ++ bls beg) ++ [59]
 | k + 1 => (taK es beg rows k ++ rowT rows k) ++ [59]
theorem fiR_le (rows : List ByteArray) (x : ByteArray) : fiR rows x ≤ rows.length := by
 unfold fiR
 rcases firstB_spec (eqR rows x) rows.length with ⟨h1, -⟩ | ⟨k, h1, h2, -, -⟩
 ·rw [h1]; exact Nat.le_refl _
 ·rw [h1]; exact Nat.le_of_lt h2
theorem rowT_len {rows : List ByteArray} (hl : rows.length ≤ 1000) (hr : ∀ r ∈ rows, r.size ≤ 6000000) (i : Nat) : (rowT rows i).length ≤ 6000000 := by
 unfold rowT
 split
 ·rename_i r hx
  split
  ·have := decD_len (n := fiR rows r) (by have := fiR_le rows r; omega)
   simp only [List.length_cons]; omega
  ·rw [bls_len]; exact hr r (List.mem_of_getElem? hx)
 ·exact Nat.zero_le _
theorem taK_len {es beg : ByteArray} {rows : List ByteArray} (hes : es.size ≤ 26) (hbg : beg.size ≤ 10000000000) (hl : rows.length ≤ 1000) (hr : ∀ r ∈ rows, r.size ≤ 6000000) : ∀ k, k ≤ 1000 → (taK es beg rows k).length ≤ 10000000028 + k * 6000001
 | 0, _ => by
  simp only [taK, List.length_append, List.length_cons, List.length_nil, bls_len]; omega
 | k + 1, hk => by
  have ih := taK_len hes hbg hl hr k (by omega)
  have h2 := rowT_len hl hr k
  simp only [taK, List.length_append, List.length_cons, List.length_nil]
  rw [Nat.succ_mul]; omega
theorem conv_Z {w : World} {B : Nat} {v : Value} {l : List UInt8} (h : TxZ w B v (byV l)) : Sem.run Tryz.prog (convert 82 9 v) w = .ok (.string ⟨l.toArray⟩) w := by
 obtain ⟨g, cap, rfl, h1, h2, h3, h4, h5, h6⟩ := h.ex
 have hl : (byV l).length = l.length := by simp [byV]
 rw [hl]
 exact run_convert_bytes_back (P := Tryz.prog) w 82 9 5 ⟨g, 0, none⟩ cap l Tryz.underlying82 Tryz.underlying5 Tryz.underlying9 (fun j hj => by
  rw [Addr.add_lit, Nat.zero_add]
  exact h5 j _ (by simp [byV, hj]))

set_option maxRecDepth 100000 in
set_option maxHeartbeats 4000000 in
theorem tableText_any (H : Nat) (T : World → Prop) (hI : ItO H T) (w : World) (b : Nat) (es beg : ByteArray) (vR : Value) (rows : List ByteArray) (c5 : w.cell? ⟨b, 705, none⟩ = some (.string es)) (c7 : w.cell? ⟨b, 707, none⟩ = some vR) (hR : w.ownsRow 0 9 1 vR rows.length (rows.map Value.string)) (hT : T w) (hes : es.size ≤ 26) (hbg : beg.size ≤ 10000000000) (hl : rows.length ≤ 1000) (hr : ∀ r ∈ rows, r.size ≤ 6000000) :
  Calls Tryz.prog 32 #[.pointer (some ⟨b, 0, none⟩), .string beg] w fun e w' => e = .returned (.string ⟨(taK es beg rows rows.length).toArray⟩) ∧ Fr (fun _ => False) w w' := by
 obtain ⟨ra, rc, hv⟩ := row_len hR
 subst hv
 have HC7 : Hid (∀ w', Fr (fun _ => False) w w' → w'.cell? ⟨b, 707, none⟩ = some (.slice ra rows.length rc)) := fun w' f => by
  rw [World.cell?_of_block (f.block b (World.block_lt_of_cell? _ _ c7) (fun h => h))]; exact c7
 have HR : Hid _ := hR
 have HRS : Hid (∀ r ∈ rows, r.size ≤ 6000000) := hr
 have HLB : Hid (∀ k, k ≤ 1000 → (taK es beg rows k).length ≤ 10000000028 + k * 6000001) := taK_len hes hbg hl hr
 have HT : Hid (T w) := hT
 have HI : Hid (ItO H T) := hI
 obtain ⟨cap, w1, hcv, hz1, hf1⟩ := convZ w es (by omega)
 have HF1 : Hid (Fr (fun _ => False) w w1) := hf1
 have HZ1 : Hid _ := hz1.fr (Fr.alloc (fun _ => False) w1 (.cells #[.int .u8 59] 5))
 have hbs := hf1.size
 have hlz : (byV (bls es)).length = es.size := by rw [byV, List.length_map, bls_len]
 have c7' := HC7.out w1 hf1
 have HBF : Hid (∀ w1 w2, Fr (fun _ => False) w w1 → Fr (fun k => w.heap.size ≤ k) w1 w2 → Fr (fun _ => False) w w2) := fun a b f g => f.thenr g (fun k hk h => by omega)
 obtain ⟨X0, hX0⟩ : ∃ X, byV (bls es) = X := ⟨_, rfl⟩
 obtain ⟨X1, hX1⟩ : ∃ X, X0 ++ [(.int .u8 59 : Value)] = X := ⟨_, rfl⟩
 obtain ⟨X2, hX2⟩ : ∃ X, X1 ++ Go.byteCells beg = X := ⟨_, rfl⟩
 obtain ⟨X3, hX3⟩ : ∃ X, X2 ++ [(.int .u8 59 : Value)] = X := ⟨_, rfl⟩
 have l0 : X0.length ≤ 26 := by rw [← hX0, byV, List.length_map, bls_len]; exact hes
 have l1 : X1.length ≤ 27 := by rw [← hX1, List.length_append]; simp only [List.length_cons, List.length_nil]; omega
 have l2 : X2.length ≤ 10000000027 := by rw [← hX2, List.length_append, byteCells_length]; omega
 have HX1 : Hid (X0 ++ [(.int .u8 59 : Value)] = X1) := hX1
 have HX2 : Hid (X1 ++ Go.byteCells beg = X2) := hX2
 have HX3 : Hid (X2 ++ [(.int .u8 59 : Value)] = X3) := hX3
 have HXE : Hid (X3 = byV (taK es beg rows 0)) := by
  show _ = _
  rw [← hX3, ← hX2, ← hX1, ← hX0, taK, ← app_byV, ← app_byV, ← app_byV]; rfl
 rw [hX0] at HZ1
 clear hX0 hX1 hX2 hX3 hlz hz1 hf1 hT hI hr c7 hR
 go_enter Tryz.func32, Tryz.ntmps32
 go_wp2_with (first | (at_builtin; refine wpList_appZ rfl _ _ _ _ rfl 5 elemU8 w.heap.size _ X0 rfl HZ1.out _ 1 [.int .u8 59] rfl (Src.ofSlice _ Tryz.underlying82 ⟨w1.heap.size, 0, none⟩ 1 1 [.int .u8 59] rfl (by exact cells_new (Blk.new _ _ _)) (by intro u hu; simp at hu; subst hu; rfl)) (by omega) (by simp; omega) ?_; intro raw2 rcw2 w2 hzw2 hfw2; rw [HX1.out] at hzw2; have HZ2 : Hid _ := hzw2; have HF2 : Hid _ := HBF.out _ _ (HF1.out.thenr (Fr.alloc (fun _ => False) w1 (.cells #[.int .u8 59] 5)) (fun _ _ h => h)) hfw2; have hsw2 := HF2.out.size; clear hzw2 hfw2) | (at_builtin; refine wpList_appZ rfl _ _ _ _ rfl 5 elemU8 w.heap.size _ X1 rfl HZ2.out _ beg.size (Go.byteCells beg) rfl (Src.ofString _ Tryz.underlying9 beg) (by omega) (by omega) ?_; intro raw3 rcw3 w3 hzw3 hfw3; rw [HX2.out] at hzw3; have HF3 : Hid _ := HBF.out _ _ HF2.out hfw3; have hsw3 := HF3.out.size; have HZ3 : Hid _ := hzw3.fr (Fr.alloc (fun _ => False) w3 (.cells #[.int .u8 59] 5)); clear hzw3 hfw3) | (at_builtin; refine wpList_appZ rfl _ _ _ _ rfl 5 elemU8 w.heap.size _ X2 rfl HZ3.out _ 1 [.int .u8 59] rfl (Src.ofSlice _ Tryz.underlying82 ⟨w3.heap.size, 0, none⟩ 1 1 [.int .u8 59] rfl (by exact cells_new (Blk.new _ _ _)) (by intro u hu; simp at hu; subst hu; rfl)) (by omega) (by simp; omega) ?_; intro raw4 rcw4 w4 hzw4 hfw4; rw [HX3.out] at hzw4; have HZ4 : Hid _ := hzw4; have HF4 : Hid _ := HBF.out _ _ (HF3.out.thenr (Fr.alloc (fun _ => False) w3 (.cells #[.int .u8 59] 5)) (fun _ _ h => h)) hfw4; have hsw4 := HF4.out.size; have d7 := HC7.out w4 HF4.out; clear hzw4 hfw4) | fail)
 go_loopg [5, 28] 1001 (fun g vt vi wr => ∃ k : Nat, k ≤ rows.length ∧ vi = .int .i64 k ∧ Hid (TxZ wr w.heap.size vt (byV (taK es beg rows k))) ∧ Hid (Fr (fun _ => False) w wr) ∧ rows.length - k ≤ g)
 case atStart => exact ⟨0, Nat.zero_le _, rfl, (by show TxZ _ _ _ _; rw [← HXE.out]; exact HZ4.out), HF4, by omega⟩
 case round =>
  clear HZ1 HZ2 HZ3 HZ4 HF1 HF2 HF3 HF4 HX1 HX2 HX3 HXE l0 l1 l2 hsw2 hsw3 hsw4 d7 c5 hcv hbs
  obtain ⟨k, hk, rfl, HZ, HF, hg⟩ := hrel
  have hlk := HLB.out k (by omega)
  have hlk2 : (taK es beg rows k).length ≤ 17000000000 := by
   have : k * 6000001 ≤ 1000 * 6000001 := Nat.mul_le_mul_right _ (by omega)
   omega
  obtain ⟨Y0, hY0⟩ : ∃ X, byV (taK es beg rows k) = X := ⟨_, rfl⟩
  have m0 : Y0.length ≤ 17000000000 := by rw [← hY0, byV, List.length_map]; exact hlk2
  have hsr := HF.out.size
  have c7 := HC7.out wr HF.out
  have hrr := row_fr HR.out HF.out (fun _ _ h => h)
  by_cases hlt : (k : Int) < rows.length
  ·rw [hY0] at HZ
   have HY0 : Hid (byV (taK es beg rows k) = Y0) := hY0
   clear hY0 hlk hlk2
   have hlt' : k < rows.length := by omega
   obtain ⟨va, vc, hvt⟩ : ∃ a c, _ = Value.slice a Y0.length c := by obtain ⟨g, cap, e, -⟩ := HZ.out.ex; exact ⟨_, _, e⟩
   subst hvt
   obtain ⟨gg, cc, hv3, hcc⟩ := row_form hrr (by omega)
   injection hv3 with q1 q2 q3
   subst q1
   subst q3
   clear q2
   obtain ⟨y, hy⟩ : ∃ y, rows[k]? = some y := ⟨_, List.getElem?_eq_getElem hlt'⟩
   have y0 := (row_cell hrr k (.string y) (by rw [List.getElem?_map, hy]; rfl)).1
   have hys := HRS.out y (List.mem_of_getElem? hy)
   have HFA : Hid _ := firstAlike_any wr b _ rows y c7 hrr (by omega)
   have HRT : Hid (rowT rows k = if fiR rows y < k then 61 :: Lib.decDigits (fiR rows y) else bls y) := by show _ = _; simp [rowT, hy]
   have hfl := fiR_le rows y
   clear hrr hy c7
   go_wp2_with fail
   refine Calls.mono HFA.out ?_
   rintro e WV ⟨rfl, hfw⟩
   have HZw0 : Hid _ := HZ.out.fr hfw
   have HFw0 : Hid _ := HF.out.thenr hfw (fun _ _ h => h)
   clear hfw y0 HZ HF HFA
   by_cases hd : fiR rows y < k
   ·have hd' : (fiR rows y : Int) < k := by omega
    have HTw : Hid (T WV) := HI.out.keep w WV _ HT.out HFw0.out (fun _ h => h.elim)
    go_wp2_with fail
    refine (HI.out.call WV (fiR rows y) HTw.out (by omega)).mono ?_
    rintro e WW ⟨rfl, hfw⟩
    have HZw : Hid _ := HZw0.out.fr hfw
    have HFw : Hid _ := HFw0.out.thenr hfw (fun _ _ h => h)
    have hsw := HFw.out.size
    have hdl := decD_len (n := fiR rows y) (by omega)
    obtain ⟨D, hD⟩ : ∃ D : ByteArray, (⟨(Lib.decDigits (fiR rows y)).toArray⟩ : ByteArray) = D := ⟨_, rfl⟩
    have hds : D.size ≤ 6 := by rw [← hD]; show (Lib.decDigits (fiR rows y)).toArray.size ≤ 6; simpa using hdl
    obtain ⟨S, hS⟩ : ∃ S : ByteArray, (⟨#[61]⟩ : ByteArray) ++ D = S := ⟨_, rfl⟩
    have HSS : Hid (bls S = rowT rows k) := by
     show _ = _
     rw [HRT.out, if_pos hd, ← hS, ← hD]
     simp [bls, ByteArray.data_append]
    have hss : S.size ≤ 7 := by rw [← hS, ByteArray.size_append]; show 1 + D.size ≤ 7; omega
    rw [hD]
    clear hD hd hfw HZw0 HFw0 HTw HRT
    obtain ⟨Y1, hY1⟩ : ∃ X, Y0 ++ Go.byteCells S = X := ⟨_, rfl⟩
    obtain ⟨Y2, hY2⟩ : ∃ X, Y1 ++ [(.int .u8 59 : Value)] = X := ⟨_, rfl⟩
    have m1 : Y1.length ≤ 20000000000 := by rw [← hY1, List.length_append, byteCells_length]; omega
    have HY1 : Hid (Y0 ++ Go.byteCells S = Y1) := hY1
    have HY2 : Hid (Y1 ++ [(.int .u8 59 : Value)] = Y2) := hY2
    have HYE : Hid (Y2 = byV (taK es beg rows (k + 1))) := by
     show _ = _
     rw [← hY2, ← hY1, ← HY0.out, taK, ← HSS.out, ← app_byV, ← app_byV]; rfl
    clear hY1 hY2
    go_wp2_with (first | (at_builtin; refine wpList_appZ rfl _ _ _ _ rfl 5 elemU8 w.heap.size _ Y0 rfl HZw.out _ S.size (Go.byteCells S) rfl (Src.ofString _ Tryz.underlying9 S) (by omega) (by omega) ?_; intro raw6 rcw6 w6 hzw6 hfw6; rw [HY1.out] at hzw6; have HF6 : Hid _ := HBF.out _ _ HFw.out hfw6; have hsw6 := HF6.out.size; have HZ6 : Hid _ := hzw6.fr (Fr.alloc (fun _ => False) w6 (.cells #[.int .u8 59] 5)); clear hzw6 hfw6) | (at_builtin; refine wpList_appZ rfl _ _ _ _ rfl 5 elemU8 w.heap.size _ Y1 rfl HZ6.out _ 1 [.int .u8 59] rfl (Src.ofSlice _ Tryz.underlying82 ⟨w6.heap.size, 0, none⟩ 1 1 [.int .u8 59] rfl (by exact cells_new (Blk.new _ _ _)) (by intro u hu; simp at hu; subst hu; rfl)) (by omega) (by simp; omega) ?_; intro raw7 rcw7 w7 hzw7 hfw7; rw [HY2.out] at hzw7; have HZ7 : Hid _ := hzw7; have HF7 : Hid _ := HBF.out _ _ (HF6.out.thenr (Fr.alloc (fun _ => False) w6 (.cells #[.int .u8 59] 5)) (fun _ _ h => h)) hfw7; have hsw7 := HF7.out.size; clear hzw7 hfw7))
    go_roundg (rows.length - (k + 1))
    case measure => omega
    case rel => exact ⟨k + 1, by omega, by go_num, (by show TxZ _ _ _ _; rw [← HYE.out]; exact HZ7.out), HF7, Nat.le_refl _⟩
   ·have hd' : decide ((fiR rows y : Int) < k) = false := by simp; omega
    have hd2 : decide (fiR rows y < k) = false := by simp; omega
    have HZw : Hid _ := HZw0.out
    have HFw : Hid _ := HFw0.out
    have hsw := HFw.out.size
    have HSS : Hid (bls y = rowT rows k) := by show _ = _; rw [HRT.out, if_neg hd]
    clear hd HZw0 HFw0 HRT
    obtain ⟨Y1, hY1⟩ : ∃ X, Y0 ++ Go.byteCells y = X := ⟨_, rfl⟩
    obtain ⟨Y2, hY2⟩ : ∃ X, Y1 ++ [(.int .u8 59 : Value)] = X := ⟨_, rfl⟩
    have m1 : Y1.length ≤ 20000000000 := by rw [← hY1, List.length_append, byteCells_length]; omega
    have HY1 : Hid (Y0 ++ Go.byteCells y = Y1) := hY1
    have HY2 : Hid (Y1 ++ [(.int .u8 59 : Value)] = Y2) := hY2
    have HYE : Hid (Y2 = byV (taK es beg rows (k + 1))) := by
     show _ = _
     rw [← hY2, ← hY1, ← HY0.out, taK, ← HSS.out, ← app_byV, ← app_byV]; rfl
    clear hY1 hY2
    go_wp2_with (first | (at_builtin; refine wpList_appZ rfl _ _ _ _ rfl 5 elemU8 w.heap.size _ Y0 rfl HZw.out _ y.size (Go.byteCells y) rfl (Src.ofString _ Tryz.underlying9 y) (by omega) (by omega) ?_; intro raw6 rcw6 w6 hzw6 hfw6; rw [HY1.out] at hzw6; have HF6 : Hid _ := HBF.out _ _ HFw.out hfw6; have hsw6 := HF6.out.size; have HZ6 : Hid _ := hzw6.fr (Fr.alloc (fun _ => False) w6 (.cells #[.int .u8 59] 5)); clear hzw6 hfw6) | (at_builtin; refine wpList_appZ rfl _ _ _ _ rfl 5 elemU8 w.heap.size _ Y1 rfl HZ6.out _ 1 [.int .u8 59] rfl (Src.ofSlice _ Tryz.underlying82 ⟨w6.heap.size, 0, none⟩ 1 1 [.int .u8 59] rfl (by exact cells_new (Blk.new _ _ _)) (by intro u hu; simp at hu; subst hu; rfl)) (by omega) (by simp; omega) ?_; intro raw7 rcw7 w7 hzw7 hfw7; rw [HY2.out] at hzw7; have HZ7 : Hid _ := hzw7; have HF7 : Hid _ := HBF.out _ _ (HF6.out.thenr (Fr.alloc (fun _ => False) w6 (.cells #[.int .u8 59] 5)) (fun _ _ h => h)) hfw7; have hsw7 := HF7.out.size; clear hzw7 hfw7))
    go_roundg (rows.length - (k + 1))
    case measure => omega
    case rel => exact ⟨k + 1, by omega, by go_num, (by show TxZ _ _ _ _; rw [← HYE.out]; exact HZ7.out), HF7, Nat.le_refl _⟩
  ·have hkn : k = rows.length := by omega
   have HE : Hid (taK es beg rows rows.length = taK es beg rows k) := by show _ = _; rw [hkn]
   clear hkn hY0
   have hcv := conv_Z HZ.out
   obtain ⟨va, vc, hvt⟩ : ∃ a c, _ = Value.slice a (byV (taK es beg rows k)).length c := by obtain ⟨g, cap, e, -⟩ := HZ.out.ex; exact ⟨_, _, e⟩
   subst hvt
   obtain ⟨E, hE⟩ : ∃ E : ByteArray, (⟨(taK es beg rows k).toArray⟩ : ByteArray) = E := ⟨_, rfl⟩
   obtain ⟨ln, hln⟩ : ∃ ln, (byV (taK es beg rows k)).length = ln := ⟨_, rfl⟩
   rw [hE, hln] at hcv
   rw [hln]
   have HEE : Hid ((⟨(taK es beg rows k).toArray⟩ : ByteArray) = E) := hE
   clear hE hln HZ hrr c7
   go_wp2_with fail
   go_ret
   exact ⟨by rw [HE.out, HEE.out]; rfl, HF.out⟩

def coA (v2 v3 : Value) (es : ByteArray) : Array Value := (pyC ⟨v2, v3, [], [.string es, nilV, nilV], 87⟩ py0 nilV).toArray
theorem coA_eq (v2 v3 : Value) (es : ByteArray) : coA v2 v3 es = pyA v2 v3 ++ #[.string es, nilV, nilV] := by simp [coA, pyA, pyC]
theorem fold_set (off : Nat) (c Z R : Array Value) (h : ∀ k, R[k]? = if off ≤ k ∧ k < off + c.size ∧ k < Z.size then c[k - off]? else Z[k]?) : c.zipIdx.foldl (fun cs (x : Value × Nat) => cs.setIfInBounds (off + x.2) x.1) Z = R := by
 rw [← Array.foldl_toList, Array.toList_zipIdx]
 obtain ⟨-, h2⟩ := Great.foldl_set off c.toList 0 Z
 apply Array.ext_getElem?
 intro k
 rw [h2 k, h k]
 simp
set_option maxRecDepth 1000000 in
theorem zero_co : (Tryz.prog.info? 87).bind (·.zero) = some (.agg (coA nilV nilV ⟨#[]⟩)) := by kernel_rfl
theorem size_co : (Tryz.prog.info? 87).map (·.size) = some 708 := by kernel_rfl
theorem coA_size (v2 v3 : Value) (es : ByteArray) : (coA v2 v3 es).size = 708 := by rw [coA, List.size_toArray, pyC_len py0_ok]; rfl
theorem built_co (v2 v3 : Value) (es : ByteArray) : Tryz.prog.built 87 [(0, .agg (pyA v2 v3)), (1, .string es)] = some (coA v2 v3 es) := by
 obtain ⟨i, hi, hz⟩ : ∃ i, Tryz.prog.info? 87 = some i ∧ i.zero = some (.agg (coA nilV nilV ⟨#[]⟩)) := by
  have h1 := zero_co
  cases h2 : Tryz.prog.info? 87 with
  | none => rw [h2] at h1; cases h1
  | some i => rw [h2] at h1; exact ⟨i, rfl, h1⟩
 obtain ⟨fs, hu, hp⟩ : ∃ fs, Tryz.prog.underlying 87 = some (.struct fs) ∧ fs.toList.mapM (fun f => (Tryz.prog.info? f.type).map fun i => (f.offset, i.size)) = some [(0, 705), (705, 1), (706, 1), (707, 1)] := ⟨_, Tryz.underlying87, by kernel_rfl⟩
 have hs1 := pyA_size v2 v3
 have hs0 := pyA_size nilV nilV
 have e1 : (pyA v2 v3).zipIdx.foldl (fun cs (x : Value × Nat) => cs.setIfInBounds (0 + x.2) x.1) (coA nilV nilV ⟨#[]⟩) = coA v2 v3 ⟨#[]⟩ := by
  refine fold_set 0 _ _ _ (fun k => ?_)
  rw [hs1, coA_size]
  by_cases hk : k < 705
  ·rw [if_pos (by omega), coA_eq, Array.getElem?_append_left (by omega), Nat.sub_zero]
  ·rw [if_neg (by omega), coA_eq, coA_eq, Array.getElem?_append_right (by omega), Array.getElem?_append_right (by omega), hs1, hs0]
 have e2 : (#[Value.string es]).zipIdx.foldl (fun cs (x : Value × Nat) => cs.setIfInBounds (705 + x.2) x.1) (coA v2 v3 ⟨#[]⟩) = coA v2 v3 es := by
  refine fold_set 705 _ _ _ (fun k => ?_)
  rw [coA_size]
  by_cases hk : k = 705
  ·subst hk
   rw [if_pos (by simp), coA_eq, Array.getElem?_append_right (by omega), hs1]; rfl
  ·rw [if_neg (by simp; omega), coA_eq, coA_eq]
   by_cases hk2 : k < 705
   ·rw [Array.getElem?_append_left (by omega), Array.getElem?_append_left (by omega)]
   ·rw [Array.getElem?_append_right (by omega), Array.getElem?_append_right (by omega), hs1]
    obtain ⟨m, hm⟩ : ∃ m, k - 705 = m + 1 := ⟨k - 706, by omega⟩
    rw [hm]
    simp
 unfold Program.built
 rw [hi, hu]
 simp only [hz, hp]
 have c1 : (Value.agg (pyA v2 v3)).cells = pyA v2 v3 := rfl
 have c0 : (Value.agg (coA nilV nilV ⟨#[]⟩)).cells = coA nilV nilV ⟨#[]⟩ := rfl
 have c2 : (Value.string es).cells = #[Value.string es] := rfl
 rw [c0]
 unfold Instr.fill
 rw [c1]
 have hp0 : ([(0, 705), (705, 1), (706, 1), (707, 1)] : List (Nat × Nat)).toArray[0]? = some (0, 705) := rfl
 have hp1 : ([(0, 705), (705, 1), (706, 1), (707, 1)] : List (Nat × Nat)).toArray[1]? = some (705, 1) := rfl
 simp only [hp0, hs1, coA_size]
 rw [if_neg (by simp), e1]
 unfold Instr.fill
 rw [c2]
 simp only [hp1, coA_size]
 rw [if_neg (by simp), e2]
 rfl
theorem one_co {v2 v3 : Value} (h2 : v2.oneCell' = true) (h3 : v3.oneCell' = true) (es : ByteArray) : (coA v2 v3 es).all (·.oneCell') = true := by
 rw [Array.all_eq_true_iff_forall_mem]
 intro v hv
 simp only [coA, pyC, List.mem_toArray, List.mem_append, List.mem_cons, List.not_mem_nil, or_false] at hv
 rcases hv with (rfl | rfl) | hv | hv | rfl | rfl | rfl | rfl
 ·exact h2
 ·exact h3
 ·simp only [bV, List.mem_map] at hv; obtain ⟨_, _, rfl⟩ := hv; rfl
 ·simp only [mmC, List.mem_flatMap, bV, List.mem_map] at hv; obtain ⟨_, _, _, _, rfl⟩ := hv; rfl
 ·rfl
 ·rfl
 ·rfl
 ·rfl
end Go.Proofs.YtmolmbeeoecnfaaGreatDoor
