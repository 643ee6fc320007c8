/- Own work: walks of the program's table: play. -/
import Derived.Test.YtmolmbeeoecnfaaTR7
namespace Go.Proofs.Ytmolmbeeoecnfaa
open Go.RowKit Go.BigFrame
set_option linter.unusedVariables false
set_option linter.unusedSimpArgs false

theorem elemU8 : ElemOk Try.prog 43 5 1 1 where
  ht := Try.underlying43
  info := by
    obtain ⟨i, h0, h1, h2, h3⟩ := info_parts (show (Try.prog.info? 5).map (fun i => (i.zero, i.size, i.bytes)) = some (some (.int .u8 0), 1, 1) by kernel_rfl)
    exact ⟨i, _, h0, h1, h2, h3, rfl⟩
  pos := by decide
theorem zeroU8 : (Try.prog.info? 5).bind (·.zero) = some (.int .u8 0) := by kernel_rfl
@[go_sem] theorem conv_bytes_of (w : World) (s : ByteArray) :
    Sem.run Try.prog (convert 9 43 (.string s)) w = .ok (.slice (some ⟨w.heap.size, 0, none⟩) s.size (grownCap w s.size 0 5)) (bytesW w 5 s) :=
  run_bytes_of_string w 9 43 5 s Try.underlying9 Try.underlying43 Try.underlying5
theorem bytesW_size (w : World) (e : TypeId) (s : ByteArray) : (bytesW w e s).heap.size = w.heap.size + 1 := by simp [bytesW]

set_option maxRecDepth 100000 in
set_option maxHeartbeats 1000000 in
theorem play_any (w : World) (ev bg es : ByteArray) (v : Value) (th : List RwH) (hV : TbV w v th) (m : Nat) (hok : TbOk (th.map RwH.q) ev.size m) (hm : m ≤ 600000) (hbg : bg.size ≤ 600000) (hes : es.size ≤ 400) (hev : ev.size ≤ 600000) :
    Calls Try.prog 40 #[.agg #[.string ev, .string bg, v], .string es] w fun e w' => e = .returned (.tuple #[.string (runS (th.map RwH.q) ev bg es es.size).1, .int .i64 (runS (th.map RwH.q) ev bg es es.size).2]) ∧ Fr (fun _ => False) w w' := by
  have HV : Hid (TbV w v th) := hV
  have HOK : Hid (TbOk (th.map RwH.q) ev.size m) := hok
  obtain ⟨va, vc, hv⟩ := row_len hV.r
  subst hv
  clear hV hok
  go_enter Try.func40, Try.ntmps40
  go_wp2_with fail
  have hT0 := Blk.new w #[.string ev, .string bg, .slice va th.length vc] 95
  have hfr0 : Fr (fun _ => False) w (w.alloc (.cells #[.string ev, .string bg, .slice va th.length vc] 95)) := (Fr.refl _ _).allocr _
  have hB0 := bytesW_row (w.alloc (.cells #[.string ev, .string bg, .slice va th.length vc] 95)) 5 bg (by unfold maxLen; omega)
  have hfr1 := hfr0.thenr (bytesW_fr (w.alloc (.cells #[.string ev, .string bg, .slice va th.length vc] 95)) 5 bg) (fun _ _ h => h)
  have hT1 := Blk.fr hT0 (bytesW_fr (w.alloc (.cells #[.string ev, .string bg, .slice va th.length vc] 95)) 5 bg) (fun h => h)
  have hsz : (w.alloc (.cells #[.string ev, .string bg, .slice va th.length vc] 95)).heap.size = w.heap.size + 1 := by simp
  rw [hsz] at hB0
  generalize grownCap (w.alloc (.cells #[.string ev, .string bg, .slice va th.length vc] 95)) bg.size 0 5 = cp at hB0 ⊢
  generalize bytesW (w.alloc (.cells #[.string ev, .string bg, .slice va th.length vc] 95)) 5 bg = W at hB0 hfr1 hT1 ⊢
  clear hfr0 hT0 hsz
  go_loopw [6, 7, 8] (fun vo vn vi wr => ∃ j : Nat, j ≤ es.size ∧ vi = .int .i64 j ∧ vn = .int .i64 (runS (th.map RwH.q) ev bg es j).2 ∧ BRow wr 5 vo (runS (th.map RwH.q) ev bg es j).1 ∧ (∀ k, vo.ownBlock = some k → w.heap.size + 1 ≤ k) ∧ Fr (fun _ => False) w wr ∧ Blk wr w.heap.size #[.string ev, .string bg, .slice va th.length vc] 95) (fun _ _ vi _ => es.size - (intOf vi).toNat)
  case atStart => exact ⟨0, Nat.zero_le _, rfl, rfl, hB0, (fun k hk => by simp only [Value.ownBlock, Option.some.injEq] at hk; omega), hfr1, hT1⟩
  case round =>
    clear hB0 hfr1 hT1
    obtain ⟨j, hj, rfl, rfl, hB, hlo, hfr, hT⟩ := hrel
    obtain ⟨hnb, hsb⟩ := HOK.out.run bg es j
    rw [List.length_map] at hnb
    have hTl := Blk.lt hT
    by_cases hlt : (j : Int) < es.size
    · have hlt' : j < es.size := by omega
      have hmul : j * (m + 1) ≤ 400 * 600001 := Nat.mul_le_mul (by omega) (by omega)
      have HX : Hid (byte es j = es[j]) := byte_in es j hlt'
      have HR : Hid (runS (th.map RwH.q) ev bg es (j + 1) = match colP ev (byte es j) with
        | none => ((runS (th.map RwH.q) ev bg es j).1 ++ ⟨#[46]⟩, (runS (th.map RwH.q) ev bg es j).2)
        | some k => ((runS (th.map RwH.q) ev bg es j).1 ++ ⟨#[46]⟩ ++ (cellOf (th.map RwH.q) (runS (th.map RwH.q) ev bg es j).2 k).acts, (cellOf (th.map RwH.q) (runS (th.map RwH.q) ev bg es j).2 k).dst)) := rfl
      generalize (runS (th.map RwH.q) ev bg es j).1 = o1 at *
      generalize (runS (th.map RwH.q) ev bg es j).2 = n1 at *
      obtain ⟨gb, cb, cur, fr, hvo, hrest⟩ := hB
      subst hvo
      have hB : BRow wr 5 (.slice (some ⟨gb, 0, none⟩) o1.size cb) o1 := ⟨gb, cb, cur, fr, rfl, hrest⟩
      clear hrest
      go_wp2_with (at_builtin; go_must (refine wpList_appB_one rfl _ _ _ rfl _ elemU8 _ o1 rfl (BRow.fr hB (Fr.alloc (fun _ => False) _ _) (fun _ _ h => h)) 46 ⟨wr.heap.size, 0, none⟩ 1 rfl (by simp) (by omega) ?_); intro g1 cap1 w2 hB2 hgrow hgo)
      have hG2 : Fr (fun q => (Value.slice (some ⟨gb, 0, none⟩) o1.size cb).ownBlock = some q) _ w2 := Fr.grown _ hgrow (fun _ e => e)
      have hT2 := Blk.fr (Blk.alloc hT _) hG2 (fun e => by have := hlo _ e; omega)
      have hfr2 : Fr (fun _ => False) w w2 := (hfr.allocr _).thenr hG2 (fun q hq e => by have := hlo q e; omega)
      have hlo2 : w.heap.size + 1 ≤ g1 := by
        rcases hgo with e | e
        · exact hlo g1 e
        · simp at e; omega
      have t0 : w2.cell? ⟨w.heap.size, 0, none⟩ = some (.string ev) := by rw [Blk.cell hT2]; rfl
      have t1 : w2.cell? ⟨w.heap.size, 1, none⟩ = some (.string bg) := by rw [Blk.cell hT2]; rfl
      have t2 : w2.cell? ⟨w.heap.size, 2, none⟩ = some (.slice va th.length vc) := by rw [Blk.cell hT2]; rfl
      have HS1 : Hid ((o1 ++ ⟨#[46]⟩ : ByteArray).size = o1.size + 1) := by show _ = _; rw [ByteArray.size_append]; rfl
      clear hB hgrow hgo hG2 hT hfr
      go_region_with (go_at_call 65; refine Calls.mono (column_any _ ev bg _ (es[j]) (by omega)) ?_; rintro e w3 ⟨rfl, hf3⟩)
      all_goals
        have hT3 := Blk.fr hT2.drew hf3 (fun h => h)
        have hfr3 := hfr2.drewr.thenr hf3 (fun _ _ h => h)
        have hB3 := BRow.fr (BRow.fr hB2 (Fr.drew (fun _ => False) _) (fun _ _ h => h)) hf3 (fun _ _ h => h)
        have hT3l := Blk.lt hT3
        clear hT2 hfr2 hB2 hf3 t0 t1 t2
        rw [← HX.out]
        cases hcol : colP ev (byte es j) with
        | none =>
          have HR2 : Hid (runS (th.map RwH.q) ev bg es (j + 1) = (o1 ++ ⟨#[46]⟩, n1)) := by show _ = _; rw [HR.out, hcol]
          show _
          simp only [colI]
          clear hcol HR
          go_wp2_with fail
          go_roundw
          case rel => exact ⟨j + 1, by omega, by go_num, by rw [HR2.out], (by rw [HR2.out]; exact hB3), (fun k hk => by simp only [Value.ownBlock, Option.some.injEq] at hk; omega), hfr3, hT3⟩
          case measure => simp [intOf]; omega
        | some k =>
          have HR2 : Hid (runS (th.map RwH.q) ev bg es (j + 1) = (o1 ++ ⟨#[46]⟩ ++ (cellOf (th.map RwH.q) n1 k).acts, (cellOf (th.map RwH.q) n1 k).dst)) := by show _ = _; rw [HR.out, hcol]
          have hkl := (colP_lt hcol).1
          have hce := HOK.out.cell (n := n1) (k := k) (by rw [List.length_map]; exact hnb) hkl
          have hnm : ((k : Int) == -1) = false := by rw [beq_eq_false_iff_ne]; omega
          have t0 : w3.cell? ⟨w.heap.size, 0, none⟩ = some (.string ev) := by rw [Blk.cell hT3]; rfl
          have t1 : w3.cell? ⟨w.heap.size, 1, none⟩ = some (.string bg) := by rw [Blk.cell hT3]; rfl
          have t2 : w3.cell? ⟨w.heap.size, 2, none⟩ = some (.slice va th.length vc) := by rw [Blk.cell hT3]; rfl
          simp only [colI]
          clear hcol HR
          go_wp2_with fail
          refine (cellAt_any w3 ev bg _ th (HV.out.fr hfr3 (fun _ _ h => h)) ev.size m HOK.out n1 k hnb hkl (by omega)).mono ?_
          rintro e w4 ⟨rfl, hf4⟩
          have hT4 := Blk.fr hT3 hf4 (fun h => h)
          have hfr4 := hfr3.thenr hf4 (fun _ _ h => h)
          have hB4 := BRow.fr hB3 hf4 (fun _ _ h => h)
          have hT4l := Blk.lt hT4
          have has := hce.2.2
          generalize cellOf (th.map RwH.q) n1 k = cx at *
          clear hT3 hfr3 hB3 hf4 t0 t1 t2 hce
          generalize ho2 : o1 ++ (⟨#[46]⟩ : ByteArray) = o2 at *
          go_wp2_with (at_builtin; go_must (refine wpList_appB_str rfl _ _ _ _ rfl _ elemU8 zeroU8 Try.underlying9 _ o2 rfl (BRow.fr hB4 (Fr.alloc (fun _ => False) _ _) (fun _ _ h => h)) cx.acts rfl (by have := HS1.out; omega) ?_); intro g2 cap2 w5 hB5 hgrow hgo; have hG5 : Fr (fun q => (Value.slice (some ⟨g1, 0, none⟩) (o1.size + 1) cap1).ownBlock = some q) _ w5 := Fr.grown _ hgrow (fun _ e => e); have hC5 := Blk.fr (Blk.new w4 #[.int .i64 cx.dst, .string cx.acts] 146) hG5 (fun e => by { simp only [Value.ownBlock, Option.some.injEq] at e; have := BRow.lt hB4 g1 rfl; omega }); have k0 : w5.cell? ⟨w4.heap.size, 0, none⟩ = some (.int .i64 cx.dst) := by { rw [Blk.cell hC5]; rfl })
          have hT5 := Blk.fr (Blk.alloc hT4 _) hG5 (fun e => by simp only [Value.ownBlock, Option.some.injEq] at e; omega)
          have hfr5 : Fr (fun _ => False) w w5 := (hfr4.allocr _).thenr hG5 (fun q hq e => by simp only [Value.ownBlock, Option.some.injEq] at e; omega)
          have hlo5 : w.heap.size + 1 ≤ g2 := by
            rcases hgo with e | e
            · have e1 : (Value.slice (some ⟨g1, 0, none⟩) (o1.size + 1) cap1).ownBlock = some g2 := e
              simp only [Value.ownBlock, Option.some.injEq] at e1
              omega
            · simp at e; omega
          go_roundw
          case rel => exact ⟨j + 1, by omega, by go_num, by rw [HR2.out], (by rw [HR2.out]; exact hB5), (fun k hk => by simp only [Value.ownBlock, Option.some.injEq] at hk; omega), hfr5, hT5⟩
          case measure => simp [intOf]; omega
    · have hje : j = es.size := by omega
      subst hje
      obtain ⟨gb, cb, cur, fr, hvo, hrest⟩ := hB
      subst hvo
      have hcv : Sem.run Try.prog (convert 43 9 (.slice (some ⟨gb, 0, none⟩) (runS (th.map RwH.q) ev bg es es.size).1.size cb)) wr = .ok (.string (runS (th.map RwH.q) ev bg es es.size).1) wr :=
        brow_back (P := Try.prog) Try.underlying43 Try.underlying5 Try.underlying9 ⟨gb, cb, cur, fr, rfl, hrest⟩
      clear hrest
      generalize hrr : runS (th.map RwH.q) ev bg es es.size = rr at *
      have HRR : Hid (runS (th.map RwH.q) ev bg es es.size = rr) := hrr
      clear hrr
      go_wp2_with fail
      go_ret2
      exact ⟨by rw [HRR.out]; rfl, hfr⟩
end Go.Proofs.Ytmolmbeeoecnfaa
