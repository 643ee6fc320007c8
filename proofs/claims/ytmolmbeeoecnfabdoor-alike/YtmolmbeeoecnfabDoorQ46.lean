/- Own work: TR7, TR8, TR9, TD7. -/
import Derived.Test.YtmolmbeeoecnfabDoorQ42
import Derived.Test.YtmolmbeeoecnfabDoorQ45
import Derived.Test.YtmolmbeeoecnfabDoorQ15
/- Own work: walks of the program's table: column, cellAt. -/
namespace Go.Proofs.YtmolmbeeoecnfabDoor
open Go.RowKit Go.BigFrame
set_option linter.unusedVariables false
set_option linter.unusedSimpArgs false

def colI (o : Option Nat) : Int := match o with | some k => k | none => -1

set_option maxRecDepth 100000 in
set_option maxHeartbeats 1000000 in
theorem column_any (w : World) (ev bg : ByteArray) (v : Value) (c : UInt8) (hl : ev.size ≤ 1000000) :
    Calls Tryd.prog 34 #[.agg #[.string ev, .string bg, v], .int .u8 c.toNat] w fun e w' => e = .returned (.int .i64 (colI (colP ev c))) ∧ Fr (fun _ => False) w w' := by
  go_enter Tryd.func34, Tryd.ntmps34
  go_wp2_with fail
  go_loopw [5] (fun vi wr => ∃ k : Nat, k ≤ ev.size ∧ vi = .int .i64 k ∧ Hid (∀ j, j < k → colB ev c j = false) ∧ Fr (fun _ => False) w wr ∧ wr.cell? ⟨w.heap.size, 0, none⟩ = some (.string ev)) (fun vi _ => ev.size - (intOf vi).toNat)
  case atStart => exact ⟨0, Nat.zero_le _, rfl, fun j hj => (by omega), by (repeat (first | exact Fr.refl _ _ | assumption | refine Fr.drewNr ?_ _ | refine Fr.drewr ?_ | refine Fr.allocr ?_ _ | refine Fr.setCellr ?_ _ _ (by first | exact Or.inl rfl | (right; simp; done) | (right; simp; omega)))), by simp⟩
  case round =>
    obtain ⟨k, hk, rfl, HJ, hfr, t0⟩ := hrel
    by_cases hlt : (k : Int) < ev.size
    · have hlt' : k < ev.size := by omega
      have HB : Hid (colB ev c k = decide (byte ev k = c)) := rfl
      have HX : Hid (byte ev k = ev[k]) := byte_in ev k hlt'
      by_cases he : byte ev k = c
      · have HC : Hid (colP ev c = some k) := firstB_some (colB ev c) k (by rw [HB.out]; simp [he]) HJ.out _ hlt'
        have he1 : ((ev[k].toNat : Int) == c.toNat) = true := by rw [beq_iff_eq, ← he, HX.out]
        go_wp2_with fail
        first
          | (go_ret
             exact ⟨by rw [HC.out]; rfl, hfr⟩)
          | (go_big_quiet (fail)
             go_wp2_with fail
             go_ret
             exact ⟨by rw [HC.out]; rfl, hfr.drewNr _⟩)
      · have HC : Hid (colB ev c k = false) := by show _ = _; rw [HB.out]; simp [he]
        have he1 : ((ev[k].toNat : Int) == c.toNat) = false := by
          rw [beq_eq_false_iff_ne]; intro h; exact he (by rw [HX.out]; exact UInt8.toNat_inj.1 (by omega))
        go_wp2_with fail
        first
          | (go_roundw
             case rel => exact ⟨k + 1, by omega, by go_num, below_step HJ.out HC.out, hfr, t0⟩
             case measure => simp [intOf]; omega)
          | (go_big_quiet (fail)
             go_wp2_with fail
             go_roundw
             case rel => exact ⟨k + 1, by omega, by go_num, below_step HJ.out HC.out, hfr.drewNr _, t0⟩
             case measure => simp [intOf]; omega)
    · have HC : Hid (colP ev c = none) := firstB_none (colB ev c) _ (fun j hj => HJ.out j (by omega))
      have hlt' : decide (k < ev.size) = false := by simp; omega
      go_wp2_with fail
      go_ret
      exact ⟨by rw [HC.out]; rfl, hfr⟩

set_option maxRecDepth 100000 in
set_option maxHeartbeats 1000000 in
theorem cellAt_any (w : World) (ev bg : ByteArray) (v : Value) (th : List RwH) (hV : TbV w v th) (wd m : Nat) (hok : TbOk (th.map RwH.q) wd m) (n k : Nat) (hn : n < th.length) (hk : k < wd) (hw : wd ≤ 1000000) :
    Calls Tryd.prog 35 #[.agg #[.string ev, .string bg, v], .int .i64 n, .int .i64 k] w fun e w' => e = .returned (.agg #[.int .i64 (cellOf (th.map RwH.q) n k).dst, .string (cellOf (th.map RwH.q) n k).acts]) ∧ Fr (fun _ => False) w w' := by
  obtain ⟨gg, cc, hv, hcc⟩ := row_form hV.r (by omega)
  subst hv
  have hn' : (n : Int) < th.length := by omega
  have hgl : gg < w.heap.size := (hV.r.lt gg rfl).2
  have key : ∀ k (x : RwH), th[k]? = some x → ∀ o v, o < 4 → x.pcells[o]? = some v → w.cell? ⟨gg, k * 4 + o, none⟩ = some v := fun k x hx o v ho hv =>
    (row_cell hV.r (k * 4 + o) v (by rw [flat_get RwH.pcells 4 RwH.plen th k o x hx ho]; exact hv)).1
  obtain ⟨y, hy⟩ : ∃ y, th[n]? = some y := ⟨_, List.getElem?_eq_getElem hn⟩
  have x0 := key n y hy 0 _ (by omega) rfl
  have x1 := key n y hy 1 _ (by omega) rfl
  have x2 := key n y hy 2 _ (by omega) rfl
  have x3 := key n y hy 3 _ (by omega) rfl
  rw [Nat.add_zero] at x0
  have hyR : (th.map RwH.q)[n]? = some y.q := by simp [hy]
  have hcell := hok.cell (n := n) (k := k) (by simpa using hn) hk
  have hle := hok.le
  rw [List.length_map] at hle
  have hmin : min (cellOf (th.map RwH.q) n k).dst 99 = (cellOf (th.map RwH.q) n k).dst := by have := hcell.2.1; rw [List.length_map] at this; omega
  rcases hok.row n y.q hyR with ⟨h1, h2, x, h3, h4⟩ | ⟨h1, h2, h3⟩
  · obtain ⟨mm, hmm⟩ : ∃ mm : Nat, y.q.same = mm := ⟨y.q.same.toNat, by omega⟩
    rw [hmm, Int.toNat_natCast] at h3
    obtain ⟨z, hz, hzq⟩ : ∃ z, th[mm]? = some z ∧ z.q = x := by
      rw [List.getElem?_map] at h3
      cases hz : th[mm]? with
      | none => rw [hz] at h3; cases h3
      | some z => rw [hz] at h3; exact ⟨z, rfl, by simpa using h3⟩
    subst hzq
    have hml : mm < th.length := (List.getElem?_eq_some_iff.1 hz).1
    have hml' : (mm : Int) < th.length := by omega
    have hcs : cellsOf (th.map RwH.q) n = z.q.cells := by unfold cellsOf; rw [hyR]; simp only; rw [if_pos h1, hmm, Int.toNat_natCast, h3]
    rw [hcs] at hcell
    have hzl : z.q.cells.length = wd := by
      rcases hok.row mm z.q h3 with ⟨h5, -⟩ | ⟨-, h6, -⟩
      · omega
      · exact h6
    have u0 := key mm z hz 0 _ (by omega) rfl
    have u1 := key mm z hz 1 _ (by omega) rfl
    have u2 := key mm z hz 2 _ (by omega) rfl
    have u3 := key mm z hz 3 _ (by omega) rfl
    rw [Nat.add_zero] at u0
    have hrc := hV.rc z (List.mem_of_getElem? hz)
    obtain ⟨ge, ce, hcv, -⟩ := row_form hrc (by omega)
    obtain ⟨ya, yc, hyv⟩ := row_len (hV.rc y (List.mem_of_getElem? hy))
    rw [hyv] at x3
    rw [hcv] at hrc u3
    have e0 := (row_cell hrc (k * 2 + 0) _ (by rw [flat_get clQ 2 clQ_len _ k 0 _ hcell.1 (by omega)]; rfl)).1
    have e1 := (row_cell hrc (k * 2 + 1) _ (by rw [flat_get clQ 2 clQ_len _ k 1 _ hcell.1 (by omega)]; rfl)).1
    rw [Nat.add_zero, hmin] at e0
    have hgel : ge < w.heap.size := (hrc.lt ge rfl).2
    have hsm : smQ y.q.same = mm := by rw [smQ, if_neg (by omega)]; omega
    rw [hsm] at x2
    have hsz : smQ z.q.same = -1 := by rw [h4]; rfl
    rw [hsz] at u2
    have hnm : ((mm : Int) != -1) = true := by rw [bne_iff_ne]; omega
    have hkl : (k : Int) < z.q.cells.length := by omega
    generalize cellOf (th.map RwH.q) n k = cx at *
    clear hcell hmin hcs hrc key hyR hy hok hV h3 hsm h2 hmm h4 hz hsz hzl h1
    have hg1 : ge < w.heap.size + 1 := by omega
    have hg2 : ge < w.heap.size + 1 + 1 := by omega
    have hg3 : gg < w.heap.size + 1 := by omega
    have hg4 : gg < w.heap.size + 1 + 1 := by omega
    go_enter Tryd.func35, Tryd.ntmps35
    go_wp2_with fail
    refine bodyPost_ret (v := .agg #[.int .i64 cx.dst, .string cx.acts]) (by simp [results, Tryd.results35, go_sem]) rfl ⟨rfl, by (repeat (first | exact Fr.refl _ _ | assumption | refine Fr.drewNr ?_ _ | refine Fr.drewr ?_ | refine Fr.allocr ?_ _ | refine Fr.setCellr ?_ _ _ (by first | exact Or.inl rfl | (right; simp; done) | (right; simp; omega))))⟩
  · have hcs : cellsOf (th.map RwH.q) n = y.q.cells := by unfold cellsOf; rw [hyR]; simp only; rw [if_neg (by omega)]
    rw [hcs] at hcell
    have hrc := hV.rc y (List.mem_of_getElem? hy)
    obtain ⟨ge, ce, hcv, -⟩ := row_form hrc (by omega)
    rw [hcv] at hrc x3
    have e0 := (row_cell hrc (k * 2 + 0) _ (by rw [flat_get clQ 2 clQ_len _ k 0 _ hcell.1 (by omega)]; rfl)).1
    have e1 := (row_cell hrc (k * 2 + 1) _ (by rw [flat_get clQ 2 clQ_len _ k 1 _ hcell.1 (by omega)]; rfl)).1
    rw [Nat.add_zero, hmin] at e0
    have hgel : ge < w.heap.size := (hrc.lt ge rfl).2
    have hsm : smQ y.q.same = -1 := by rw [h1]; rfl
    rw [hsm] at x2
    have hkl : (k : Int) < y.q.cells.length := by omega
    generalize cellOf (th.map RwH.q) n k = cx at *
    clear hcell hmin hcs hrc key hyR hy hok hV h3 hsm h2
    have hg1 : ge < w.heap.size + 1 := by omega
    have hg2 : ge < w.heap.size + 1 + 1 := by omega
    go_enter Tryd.func35, Tryd.ntmps35
    go_wp2_with fail
    refine bodyPost_ret (v := .agg #[.int .i64 cx.dst, .string cx.acts]) (by simp [results, Tryd.results35, go_sem]) rfl ⟨rfl, by (repeat (first | exact Fr.refl _ _ | assumption | refine Fr.drewNr ?_ _ | refine Fr.drewr ?_ | refine Fr.allocr ?_ _ | refine Fr.setCellr ?_ _ _ (by first | exact Or.inl rfl | (right; simp; done) | (right; simp; omega))))⟩
end Go.Proofs.YtmolmbeeoecnfabDoor

/- Own work: walks of the program's table: play. -/
namespace Go.Proofs.YtmolmbeeoecnfabDoor
open Go.RowKit Go.BigFrame
set_option linter.unusedVariables false
set_option linter.unusedSimpArgs false

@[go_sem] theorem conv_bytes_of (w : World) (s : ByteArray) :
    Sem.run Tryd.prog (convert 9 65 (.string s)) w = .ok (.slice (some ⟨w.heap.size, 0, none⟩) s.size (grownCap w s.size 0 5)) (bytesW w 5 s) :=
  run_bytes_of_string w 9 65 5 s Tryd.underlying9 Tryd.underlying65 Tryd.underlying5
theorem bytesW_size (w : World) (e : TypeId) (s : ByteArray) : (bytesW w e s).heap.size = w.heap.size + 1 := by simp [bytesW]

set_option maxRecDepth 100000 in
set_option maxHeartbeats 1000000 in
theorem play_any (w : World) (ev bg es : ByteArray) (v : Value) (th : List RwH) (hV : TbV w v th) (m : Nat) (hok : TbOk (th.map RwH.q) ev.size m) (hm : m ≤ 600000) (hbg : bg.size ≤ 600000) (hes : es.size ≤ 400) (hev : ev.size ≤ 600000) :
    Calls Tryd.prog 18 #[.agg #[.string ev, .string bg, v], .string es] w fun e w' => e = .returned (.tuple #[.string (runS (th.map RwH.q) ev bg es es.size).1, .int .i64 (runS (th.map RwH.q) ev bg es es.size).2]) ∧ Fr (fun _ => False) w w' := by
  have HV : Hid (TbV w v th) := hV
  have HOK : Hid (TbOk (th.map RwH.q) ev.size m) := hok
  obtain ⟨va, vc, hv⟩ := row_len hV.r
  subst hv
  clear hV hok
  go_enter Tryd.func18, Tryd.ntmps18
  go_wp2_with fail
  have hT0 := Blk.new w #[.string ev, .string bg, .slice va th.length vc] 55
  have hfr0 : Fr (fun _ => False) w (w.alloc (.cells #[.string ev, .string bg, .slice va th.length vc] 55)) := (Fr.refl _ _).allocr _
  have hB0 := bytesW_row (w.alloc (.cells #[.string ev, .string bg, .slice va th.length vc] 55)) 5 bg (by unfold maxLen; omega)
  have hfr1 := hfr0.thenr (bytesW_fr (w.alloc (.cells #[.string ev, .string bg, .slice va th.length vc] 55)) 5 bg) (fun _ _ h => h)
  have hT1 := Blk.fr hT0 (bytesW_fr (w.alloc (.cells #[.string ev, .string bg, .slice va th.length vc] 55)) 5 bg) (fun h => h)
  have hsz : (w.alloc (.cells #[.string ev, .string bg, .slice va th.length vc] 55)).heap.size = w.heap.size + 1 := by simp
  rw [hsz] at hB0
  generalize grownCap (w.alloc (.cells #[.string ev, .string bg, .slice va th.length vc] 55)) bg.size 0 5 = cp at hB0 ⊢
  generalize bytesW (w.alloc (.cells #[.string ev, .string bg, .slice va th.length vc] 55)) 5 bg = W at hB0 hfr1 hT1 ⊢
  clear hfr0 hT0 hsz
  go_loopw [6, 7, 8] (fun vo vn vi wr => ∃ j : Nat, j ≤ es.size ∧ vi = .int .i64 j ∧ vn = .int .i64 (runS (th.map RwH.q) ev bg es j).2 ∧ BRow wr 5 vo (runS (th.map RwH.q) ev bg es j).1 ∧ (∀ k, vo.ownBlock = some k → w.heap.size + 1 ≤ k) ∧ Fr (fun _ => False) w wr ∧ Blk wr w.heap.size #[.string ev, .string bg, .slice va th.length vc] 55) (fun _ _ vi _ => es.size - (intOf vi).toNat)
  case atStart => exact ⟨0, Nat.zero_le _, rfl, rfl, hB0, (fun k hk => by simp only [Value.ownBlock, Option.some.injEq] at hk; omega), hfr1, hT1⟩
  case round =>
    clear hB0 hfr1 hT1
    obtain ⟨j, hj, rfl, rfl, hB, hlo, hfr, hT⟩ := hrel
    obtain ⟨hnb, hsb⟩ := HOK.out.run bg es j
    rw [List.length_map] at hnb
    have hTl := Blk.lt hT
    by_cases hlt : (j : Int) < es.size
    · have hlt' : j < es.size := by omega
      have hmul : j * (m + 1) ≤ 400 * 600001 := Nat.mul_le_mul (by omega) (by omega)
      have HX : Hid (byte es j = es[j]) := byte_in es j hlt'
      have HR : Hid (runS (th.map RwH.q) ev bg es (j + 1) = match colP ev (byte es j) with
        | none => ((runS (th.map RwH.q) ev bg es j).1 ++ ⟨#[46]⟩, (runS (th.map RwH.q) ev bg es j).2)
        | some k => ((runS (th.map RwH.q) ev bg es j).1 ++ ⟨#[46]⟩ ++ (cellOf (th.map RwH.q) (runS (th.map RwH.q) ev bg es j).2 k).acts, (cellOf (th.map RwH.q) (runS (th.map RwH.q) ev bg es j).2 k).dst)) := rfl
      generalize (runS (th.map RwH.q) ev bg es j).1 = o1 at *
      generalize (runS (th.map RwH.q) ev bg es j).2 = n1 at *
      obtain ⟨gb, cb, cur, fr, hvo, hrest⟩ := hB
      subst hvo
      have hB : BRow wr 5 (.slice (some ⟨gb, 0, none⟩) o1.size cb) o1 := ⟨gb, cb, cur, fr, rfl, hrest⟩
      clear hrest
      go_wp2_with (at_builtin; go_must (refine wpList_appB_one rfl _ _ _ rfl _ elemU8 _ o1 rfl (BRow.fr hB (Fr.alloc (fun _ => False) _ _) (fun _ _ h => h)) 46 ⟨wr.heap.size, 0, none⟩ 1 rfl (by simp) (by omega) ?_); intro g1 cap1 w2 hB2 hgrow hgo)
      have hG2 : Fr (fun q => (Value.slice (some ⟨gb, 0, none⟩) o1.size cb).ownBlock = some q) _ w2 := Fr.grown _ hgrow (fun _ e => e)
      have hT2 := Blk.fr (Blk.alloc hT _) hG2 (fun e => by have := hlo _ e; omega)
      have hfr2 : Fr (fun _ => False) w w2 := (hfr.allocr _).thenr hG2 (fun q hq e => by have := hlo q e; omega)
      have hlo2 : w.heap.size + 1 ≤ g1 := by
        rcases hgo with e | e
        · exact hlo g1 e
        · simp at e; omega
      have t0 : w2.cell? ⟨w.heap.size, 0, none⟩ = some (.string ev) := by rw [Blk.cell hT2]; rfl
      have t1 : w2.cell? ⟨w.heap.size, 1, none⟩ = some (.string bg) := by rw [Blk.cell hT2]; rfl
      have t2 : w2.cell? ⟨w.heap.size, 2, none⟩ = some (.slice va th.length vc) := by rw [Blk.cell hT2]; rfl
      have HS1 : Hid ((o1 ++ ⟨#[46]⟩ : ByteArray).size = o1.size + 1) := by show _ = _; rw [ByteArray.size_append]; rfl
      clear hB hgrow hgo hG2 hT hfr
      go_region_with (go_at_call 34; refine Calls.mono (column_any _ ev bg _ (es[j]) (by omega)) ?_; rintro e w3 ⟨rfl, hf3⟩)
      all_goals
        have hT3 := Blk.fr hT2.drew hf3 (fun h => h)
        have hfr3 := hfr2.drewr.thenr hf3 (fun _ _ h => h)
        have hB3 := BRow.fr (BRow.fr hB2 (Fr.drew (fun _ => False) _) (fun _ _ h => h)) hf3 (fun _ _ h => h)
        have hT3l := Blk.lt hT3
        clear hT2 hfr2 hB2 hf3 t0 t1 t2
        rw [← HX.out]
        cases hcol : colP ev (byte es j) with
        | none =>
          have HR2 : Hid (runS (th.map RwH.q) ev bg es (j + 1) = (o1 ++ ⟨#[46]⟩, n1)) := by show _ = _; rw [HR.out, hcol]
          show _
          simp only [colI]
          clear hcol HR
          go_wp2_with fail
          go_roundw
          case rel => exact ⟨j + 1, by omega, by go_num, by rw [HR2.out], (by rw [HR2.out]; exact hB3), (fun k hk => by simp only [Value.ownBlock, Option.some.injEq] at hk; omega), hfr3, hT3⟩
          case measure => simp [intOf]; omega
        | some k =>
          have HR2 : Hid (runS (th.map RwH.q) ev bg es (j + 1) = (o1 ++ ⟨#[46]⟩ ++ (cellOf (th.map RwH.q) n1 k).acts, (cellOf (th.map RwH.q) n1 k).dst)) := by show _ = _; rw [HR.out, hcol]
          have hkl := (colP_lt hcol).1
          have hce := HOK.out.cell (n := n1) (k := k) (by rw [List.length_map]; exact hnb) hkl
          have hnm : ((k : Int) == -1) = false := by rw [beq_eq_false_iff_ne]; omega
          have t0 : w3.cell? ⟨w.heap.size, 0, none⟩ = some (.string ev) := by rw [Blk.cell hT3]; rfl
          have t1 : w3.cell? ⟨w.heap.size, 1, none⟩ = some (.string bg) := by rw [Blk.cell hT3]; rfl
          have t2 : w3.cell? ⟨w.heap.size, 2, none⟩ = some (.slice va th.length vc) := by rw [Blk.cell hT3]; rfl
          simp only [colI]
          clear hcol HR
          go_wp2_with fail
          refine (cellAt_any w3 ev bg _ th (HV.out.fr hfr3 (fun _ _ h => h)) ev.size m HOK.out n1 k hnb hkl (by omega)).mono ?_
          rintro e w4 ⟨rfl, hf4⟩
          have hT4 := Blk.fr hT3 hf4 (fun h => h)
          have hfr4 := hfr3.thenr hf4 (fun _ _ h => h)
          have hB4 := BRow.fr hB3 hf4 (fun _ _ h => h)
          have hT4l := Blk.lt hT4
          have has := hce.2.2
          generalize cellOf (th.map RwH.q) n1 k = cx at *
          clear hT3 hfr3 hB3 hf4 t0 t1 t2 hce
          generalize ho2 : o1 ++ (⟨#[46]⟩ : ByteArray) = o2 at *
          go_wp2_with (at_builtin; go_must (refine wpList_appB_str rfl _ _ _ _ rfl _ elemU8 zeroU8 Tryd.underlying9 _ o2 rfl (BRow.fr hB4 (Fr.alloc (fun _ => False) _ _) (fun _ _ h => h)) cx.acts rfl (by have := HS1.out; omega) ?_); intro g2 cap2 w5 hB5 hgrow hgo; have hG5 : Fr (fun q => (Value.slice (some ⟨g1, 0, none⟩) (o1.size + 1) cap1).ownBlock = some q) _ w5 := Fr.grown _ hgrow (fun _ e => e); have hC5 := Blk.fr (Blk.new w4 #[.int .i64 cx.dst, .string cx.acts] 95) hG5 (fun e => by { simp only [Value.ownBlock, Option.some.injEq] at e; have := BRow.lt hB4 g1 rfl; omega }); have k0 : w5.cell? ⟨w4.heap.size, 0, none⟩ = some (.int .i64 cx.dst) := by { rw [Blk.cell hC5]; rfl })
          have hT5 := Blk.fr (Blk.alloc hT4 _) hG5 (fun e => by simp only [Value.ownBlock, Option.some.injEq] at e; omega)
          have hfr5 : Fr (fun _ => False) w w5 := (hfr4.allocr _).thenr hG5 (fun q hq e => by simp only [Value.ownBlock, Option.some.injEq] at e; omega)
          have hlo5 : w.heap.size + 1 ≤ g2 := by
            rcases hgo with e | e
            · have e1 : (Value.slice (some ⟨g1, 0, none⟩) (o1.size + 1) cap1).ownBlock = some g2 := e
              simp only [Value.ownBlock, Option.some.injEq] at e1
              omega
            · simp at e; omega
          go_roundw
          case rel => exact ⟨j + 1, by omega, by go_num, by rw [HR2.out], (by rw [HR2.out]; exact hB5), (fun k hk => by simp only [Value.ownBlock, Option.some.injEq] at hk; omega), hfr5, hT5⟩
          case measure => simp [intOf]; omega
    · have hje : j = es.size := by omega
      subst hje
      obtain ⟨gb, cb, cur, fr, hvo, hrest⟩ := hB
      subst hvo
      have hcv : Sem.run Tryd.prog (convert 65 9 (.slice (some ⟨gb, 0, none⟩) (runS (th.map RwH.q) ev bg es es.size).1.size cb)) wr = .ok (.string (runS (th.map RwH.q) ev bg es es.size).1) wr :=
        brow_back (P := Tryd.prog) Tryd.underlying65 Tryd.underlying5 Tryd.underlying9 ⟨gb, cb, cur, fr, rfl, hrest⟩
      clear hrest
      generalize hrr : runS (th.map RwH.q) ev bg es es.size = rr at *
      have HRR : Hid (runS (th.map RwH.q) ev bg es es.size = rr) := hrr
      clear hrr
      go_wp2_with fail
      go_ret2
      exact ⟨by rw [HRR.out]; rfl, hfr⟩
end Go.Proofs.YtmolmbeeoecnfabDoor

/- Own work: walks of the program's Run. -/
namespace Go.Proofs.YtmolmbeeoecnfabDoor
open Go.RowKit Go.BigFrame
set_option linter.unusedVariables false
set_option linter.unusedSimpArgs false

set_option maxRecDepth 100000 in
set_option maxHeartbeats 1000000 in
theorem prun_any (w : World) (s es : ByteArray) (hm : s.size ≤ maxLen) (hme : es.size ≤ maxLen) :
    Calls Tryd.prog 11 #[.string s, .string es] w fun e w' => e = .returned (.tuple #[.string (runX s es).1, .int .i64 (runX s es).2.1, .int .i64 (runX s es).2.2.1, .int .i64 (runX s es).2.2.2]) ∧ Fr (fun _ => False) w w' := by
  have hme' := hme
  unfold maxLen at hme'
  by_cases hbig : (400 : Int) < es.size
  · have HE : Hid (runX s es = (⟨#[]⟩, 0, 1, 0)) := by show _ = _; rw [runX, if_pos (by omega)]
    go_enter Tryd.func11, Tryd.ntmps11
    go_wp2_with fail
    refine bodyPost_ret (v := .tuple #[.string ⟨#[]⟩, .int .i64 0, .int .i64 1, .int .i64 0]) (by simp [results, Tryd.results11, go_sem]) rfl ⟨by rw [HE.out]; rfl, by (repeat (first | exact Fr.refl _ _ | assumption | refine Fr.drewNr ?_ _ | refine Fr.drewr ?_ | refine Fr.allocr ?_ _ | refine Fr.setCellr ?_ _ _ (by first | exact Or.inl rfl | (right; simp; done) | (right; simp; omega))))⟩
  · have hd : decide ((400 : Int) < es.size) = false := by simpa using hbig
    have hes : es.size ≤ 400 := by omega
    go_enter Tryd.func11, Tryd.ntmps11
    go_wp2_with fail
    refine (load_any w s hm).mono ?_
    rintro e w1 ⟨ev, bg, va, n, vc, rfl, hfr, hyes⟩
    by_cases h0 : (ldE s).1 = 0
    · have HE : Hid (runX s es = ((runS (formP s).2.2.rows (formP s).2.2.events (formP s).2.2.begin_ es es.size).1, (runS (formP s).2.2.rows (formP s).2.2.events (formP s).2.2.begin_ es es.size).2, 0, 0)) := by
        show _ = _; rw [runX, if_neg (by omega), if_neg (fun h => h h0)]
      obtain ⟨rfl, rfl, hs6, hK, h99, hrg, th, hV, rfl, hth, hlo⟩ := hyes h0
      have HOK : Hid (TbOk (th.map RwH.q) (formP s).2.2.events.size s.size) := by
        show TbOk _ _ _
        rw [hth]
        exact tbOk_of s hK h99 (fun i => by rw [← rgB_sdB _ (form_ok s) h99]; exact hrg i)
      have HBG : Hid _ := form_bg s
      have HEV : Hid _ := form_ev s
      have HTH : Hid (th.map RwH.q = (formP s).2.2.rows) := hth
      rw [← hth] at HE
      rw [h0]
      clear hyes hrg hth h0
      generalize (formP s).2.2.events = ev at *
      generalize (formP s).2.2.begin_ = bg at *
      have hevs : ev.size ≤ 600000 := by have := HEV.out; omega
      have hbgs : bg.size ≤ 600000 := by have := HBG.out; omega
      go_wp2_with fail
      refine (play_any _ ev bg es _ th (hV.fr (Fr.alloc (fun _ => False) _ _) (fun _ _ h => h)) s.size HOK.out hs6 hbgs hes hevs).mono ?_
      rintro e w2 ⟨rfl, hf2⟩
      have HR : Hid _ := HE.out
      clear HE
      go_wp2_with fail
      refine bodyPost_ret (v := .tuple #[.string (runS (th.map RwH.q) ev bg es es.size).1, .int .i64 (runS (th.map RwH.q) ev bg es es.size).2, .int .i64 0, .int .i64 0]) (by simp [results, Tryd.results11, go_sem]) rfl ⟨by rw [HR.out], (hfr.allocr _).thenr hf2 (fun _ _ h => h)⟩
    · have HE : Hid (runX s es = (⟨#[]⟩, 0, (ldE s).1, (ldE s).2)) := by
        show _ = _; rw [runX, if_neg (by omega), if_pos h0]
      have hne : ((ldE s).1 != 0) = true := by rw [bne_iff_ne]; exact h0
      clear hyes h0
      go_wp2_with fail
      refine bodyPost_ret (v := .tuple #[.string ⟨#[]⟩, .int .i64 0, .int .i64 (ldE s).1, .int .i64 (ldE s).2]) (by simp [results, Tryd.results11, go_sem]) rfl ⟨by rw [HE.out]; rfl, by (repeat (first | exact Fr.refl _ _ | assumption | refine Fr.drewNr ?_ _ | refine Fr.drewr ?_ | refine Fr.allocr ?_ _ | refine Fr.setCellr ?_ _ _ (by first | exact Or.inl rfl | (right; simp; done) | (right; simp; omega))))⟩
end Go.Proofs.YtmolmbeeoecnfabDoor

/- Own work: walks of the document's table: Cells. -/
namespace Go.Proofs.YtmolmbeeoecnfabDoor
open Go.RowKit Go.BigFrame
set_option linter.unusedVariables false
set_option linter.unusedSimpArgs false

set_option maxRecDepth 100000 in
set_option maxHeartbeats 1000000 in
theorem dcells_any (w : World) (tb : Nat) (ev bg : ByteArray) (v : Value) (th : List RwH) (hT : Blk w tb #[.string ev, .string bg, v] 36) (hV : DTbV w v th) (wd m : Nat) (hok : TbOk (th.map RwH.q) wd m) (n : Nat) (hn : n < th.length) :
    Calls Tryd.prog 14 #[.pointer (some ⟨tb, 0, none⟩), .int .i64 n] w fun e w' => Fr (fun _ => False) w w' ∧ ∃ ca cc, e = .returned (.slice ca wd cc) ∧ w.ownsRow 0 42 2 (.slice ca wd cc) wd ((cellsOf (th.map RwH.q) n).flatMap clD) := by
  obtain ⟨gg, cc, hv, hcc⟩ := row_form hV.r (by omega)
  subst hv
  have hn' : (n : Int) < th.length := by omega
  have key : ∀ k (x : RwH), th[k]? = some x → ∀ o v, o < 4 → x.dcells[o]? = some v → w.cell? ⟨gg, k * 4 + o, none⟩ = some v := fun k x hx o v ho hv =>
    (row_cell hV.r (k * 4 + o) v (by rw [flat_get RwH.dcells 4 RwH.dlen th k o x hx ho]; exact hv)).1
  obtain ⟨y, hy⟩ : ∃ y, th[n]? = some y := ⟨_, List.getElem?_eq_getElem hn⟩
  have x1 := key n y hy 1 _ (by omega) rfl
  have x2 := key n y hy 2 _ (by omega) rfl
  have t2 : w.cell? ⟨tb, 2, none⟩ = some (.slice (some ⟨gg, 0, none⟩) th.length cc) := by rw [Blk.cell hT]; rfl
  have hyR : (th.map RwH.q)[n]? = some y.q := by simp [hy]
  rcases hok.row n y.q hyR with ⟨h1, h2, x, h3, h4⟩ | ⟨h1, h2, h3⟩
  · obtain ⟨mm, hmm⟩ : ∃ mm : Nat, y.q.same = mm := ⟨y.q.same.toNat, by omega⟩
    rw [hmm, Int.toNat_natCast] at h3
    obtain ⟨z, hz, hzq⟩ : ∃ z, th[mm]? = some z ∧ z.q = x := by
      rw [List.getElem?_map] at h3
      cases hz : th[mm]? with
      | none => rw [hz] at h3; cases h3
      | some z => rw [hz] at h3; exact ⟨z, rfl, by simpa using h3⟩
    subst hzq
    have hml : mm < th.length := (List.getElem?_eq_some_iff.1 hz).1
    have hml' : (mm : Int) < th.length := by omega
    have hcs : cellsOf (th.map RwH.q) n = z.q.cells := by unfold cellsOf; rw [hyR]; simp only; rw [if_pos h1, hmm, Int.toNat_natCast, h3]
    have hzl : z.q.cells.length = wd := by
      rcases hok.row mm z.q h3 with ⟨h5, -⟩ | ⟨-, h6, -⟩
      · omega
      · exact h6
    have u2 := key mm z hz 2 _ (by omega) rfl
    have hrc := hV.rc z (List.mem_of_getElem? hz)
    rw [hzl] at hrc
    obtain ⟨ca, ce, hcv⟩ := row_len hrc
    rw [hcv] at hrc u2
    rw [hmm] at x1
    have HC : Hid (w.ownsRow 0 42 2 (.slice ca wd ce) wd ((cellsOf (th.map RwH.q) n).flatMap clD)) := by rw [hcs]; exact hrc
    obtain ⟨ya, yc, hyv⟩ := row_len (hV.rc y (List.mem_of_getElem? hy))
    rw [hyv] at x2
    clear hrc hcs hzl key hyR hy hok hV h3 h2 hmm h4 hz h1 hT hcv hyv
    go_enter Tryd.func14, Tryd.ntmps14
    go_wp2_with fail
    first
      | (go_ret
         exact ⟨by (repeat (first | exact Fr.refl _ _ | assumption | refine Fr.drewNr ?_ _ | refine Fr.drewr ?_ | refine Fr.allocr ?_ _ | refine Fr.setCellr ?_ _ _ (by first | exact Or.inl rfl | (right; simp; done) | (right; simp; omega)))), ca, ce, rfl, HC.out⟩)
      | (go_big_quiet (fail)
         go_wp2_with fail
         go_ret
         exact ⟨by (repeat (first | exact Fr.refl _ _ | assumption | refine Fr.drewNr ?_ _ | refine Fr.drewr ?_ | refine Fr.allocr ?_ _ | refine Fr.setCellr ?_ _ _ (by first | exact Or.inl rfl | (right; simp; done) | (right; simp; omega)))), ca, ce, rfl, HC.out⟩)
      | (go_big_quiet (fail)
         go_wp2_with fail
         go_big_quiet (fail)
         go_wp2_with fail
         go_ret
         exact ⟨by (repeat (first | exact Fr.refl _ _ | assumption | refine Fr.drewNr ?_ _ | refine Fr.drewr ?_ | refine Fr.allocr ?_ _ | refine Fr.setCellr ?_ _ _ (by first | exact Or.inl rfl | (right; simp; done) | (right; simp; omega)))), ca, ce, rfl, HC.out⟩)
  · have hcs : cellsOf (th.map RwH.q) n = y.q.cells := by unfold cellsOf; rw [hyR]; simp only; rw [if_neg (by omega)]
    have hrc := hV.rc y (List.mem_of_getElem? hy)
    rw [h2] at hrc
    obtain ⟨ca, ce, hcv⟩ := row_len hrc
    rw [hcv] at hrc x2
    rw [h1] at x1
    have HC : Hid (w.ownsRow 0 42 2 (.slice ca wd ce) wd ((cellsOf (th.map RwH.q) n).flatMap clD)) := by rw [hcs]; exact hrc
    clear hrc hcs key hyR hy hok hV h3 h2 h1 hT hcv
    go_enter Tryd.func14, Tryd.ntmps14
    go_wp2_with fail
    first
      | (go_ret
         exact ⟨by (repeat (first | exact Fr.refl _ _ | assumption | refine Fr.drewNr ?_ _ | refine Fr.drewr ?_ | refine Fr.allocr ?_ _ | refine Fr.setCellr ?_ _ _ (by first | exact Or.inl rfl | (right; simp; done) | (right; simp; omega)))), ca, ce, rfl, HC.out⟩)
      | (go_big_quiet (fail)
         go_wp2_with fail
         go_ret
         exact ⟨by (repeat (first | exact Fr.refl _ _ | assumption | refine Fr.drewNr ?_ _ | refine Fr.drewr ?_ | refine Fr.allocr ?_ _ | refine Fr.setCellr ?_ _ _ (by first | exact Or.inl rfl | (right; simp; done) | (right; simp; omega)))), ca, ce, rfl, HC.out⟩)
end Go.Proofs.YtmolmbeeoecnfabDoor
