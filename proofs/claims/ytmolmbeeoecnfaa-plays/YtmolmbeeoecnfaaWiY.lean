/- Own work: the walk of the law's 'names'. -/
import Derived.Test.YtmolmbeeoecnfaaLgY
import Derived.Test.YtmolmbeeoecnfaaIdB
namespace Go.Proofs.Ytmolmbeeoecnfaa
open Go.RowKit Go.BigFrame
set_option linter.unusedVariables false
set_option linter.unusedSimpArgs false

def nmS (sts : List StR) (k : Nat) : ByteArray := ⟨((sts.take k).map StR.name).toArray⟩
theorem nmS_succ (sts : List StR) (k : Nat) (x : StR) (hx : sts[k]? = some x) : nmS sts (k + 1) = nmS sts k ++ ⟨#[x.name]⟩ := by
  obtain ⟨h1, h2⟩ := List.getElem?_eq_some_iff.1 hx
  unfold nmS
  rw [List.take_succ_eq_append_getElem h1, h2]
  apply ByteArray.ext
  rw [ByteArray.data_append]
  apply Array.toList_inj.1
  simp
theorem nmS_size (sts : List StR) (k : Nat) : (nmS sts k).size ≤ k := by
  have h : (nmS sts k).size = ((sts.take k).map StR.name).length := rfl
  rw [h, List.length_map]
  exact List.length_take_le _ _
set_option maxRecDepth 100000 in
set_option maxHeartbeats 1000000 in
theorem lawNames_any (w : World) (a3 a4 a5 a6 : Option Addr) (c3 n4 c4 n5 c5 n6 c6 : Nat) (sts : List StR) (hr : w.ownsRow 0 47 8 (.slice a3 sts.length c3) sts.length (sts.flatMap StR.cells)) (hl : sts.length ≤ 1000) :
    Calls Try.prog 23 #[.agg #[.slice a3 sts.length c3, .slice a4 n4 c4, .slice a5 n5 c5, .slice a6 n6 c6]] w fun e w' => e = .returned (.string (nmS sts sts.length)) ∧ Fr (fun _ => False) w w' := by
  have hbk := Blk.new w #[.slice a3 sts.length c3, .slice a4 n4 c4, .slice a5 n5 c5, .slice a6 n6 c6] 39
  have hr0 := row_fr hr (Fr.alloc (fun _ => False) w (.cells #[.slice a3 sts.length c3, .slice a4 n4 c4, .slice a5 n5 c5, .slice a6 n6 c6] 39)) (fun _ _ h => h)
  have hfa := (Fr.refl (fun _ => False) w).allocr (.cells #[.slice a3 sts.length c3, .slice a4 n4 c4, .slice a5 n5 c5, .slice a6 n6 c6] 39)
  go_enter Try.func23, Try.ntmps23
  go_wp2_with fail
  generalize w.alloc (.cells #[.slice a3 sts.length c3, .slice a4 n4 c4, .slice a5 n5 c5, .slice a6 n6 c6] 39) = W at hbk hr0 hfa ⊢
  generalize w.heap.size = cb at hbk ⊢
  clear hr
  go_loopw [3, 4] (fun vs vk wr => ∃ k : Nat, k ≤ sts.length ∧ vk = .int .i64 k ∧ vs = .string (nmS sts k) ∧ Fr (fun _ => False) W wr) (fun _ vk _ => sts.length - (intOf vk).toNat)
  case atStart => exact ⟨0, Nat.zero_le _, rfl, rfl, Fr.refl _ _⟩
  case round =>
    obtain ⟨k, hk, rfl, rfl, hfr⟩ := hrel
    have hbi := Blk.fr hbk hfr (fun h => h)
    have hri := row_fr hr0 hfr (fun _ _ h => h)
    have hfw := hfa.thenr hfr (fun _ _ h => h)
    have q0 : wr.cell? ⟨cb, 0, none⟩ = some (.slice a3 sts.length c3) := by rw [Blk.cell hbi]; rfl
    have hsz := nmS_size sts k
    by_cases hlt : (k : Int) < sts.length
    · have hlt' : k < sts.length := by omega
      obtain ⟨gg, cc, hv3, hcc⟩ := row_form hri (by omega)
      injection hv3 with e1 e2 e3
      subst e1
      subst e3
      obtain ⟨x, hx⟩ : ∃ x, sts[k]? = some x := ⟨_, List.getElem?_eq_getElem hlt'⟩
      obtain ⟨x0, -⟩ := st8 hri hx
      have HS : Hid _ := nmS_succ sts k x hx
      clear hx e2
      generalize nmS sts k = E at *
      go_wp2_with fail
      go_roundw
      case rel => exact ⟨k + 1, by omega, by go_num, by rw [HS.out], hfr.allocr _⟩
      case measure => simp [intOf]; omega
    · have hks : k = sts.length := by omega
      subst hks
      go_wp2_with fail
      go_ret
      exact ⟨rfl, hfw⟩
end Go.Proofs.Ytmolmbeeoecnfaa

/- Own work: the walk of the law Within, given what is asked of the plain side. -/
namespace Go.Proofs.Ytmolmbeeoecnfaa
open Go.RowKit Go.BigFrame
set_option linter.unusedVariables false
set_option linter.unusedSimpArgs false

theorem conv_one_w (w : World) (n : Nat) (hn : n = w.heap.size) (c : UInt8) :
    Sem.run Try.prog (convert 43 9 (.slice (some ⟨n, 0, none⟩) 1 1)) (w.alloc (.cells #[.int .u8 c.toNat] 5)) = .ok (.string ⟨#[c]⟩) (w.alloc (.cells #[.int .u8 c.toNat] 5)) := by
  subst hn; exact conv_one w c
/-- What has been tested when the two calls of Play are reached. -/
structure WiC0 (st : List StR) (tr : List TrR) (c : UInt8) : Prop where
  lo : 65 ≤ c.toNat
  hi : c.toNat ≤ 90
  nm : hasB (nmS st st.length) c = false
  dp : ∀ (k : Nat) (x : StR), st[k]? = some x → x.depth < 6
  kd : ∀ x, st[0]? = some x → x.kind = 1
  tr : ∀ (k : Nat) (y : TrR) (x : StR), tr[k]? = some y → st[0]? = some x → y.from_ ≠ 0 ∧ y.target ≠ x.name
theorem tr6w {w : World} {tr : List TrR} {g n c k : Nat} {x : TrR} (h3 : w.ownsRow 0 51 6 (.slice (some ⟨g, 0, none⟩) n c) n (tr.flatMap TrR.cells)) (hx : tr[k]? = some x) :
    w.cell? ⟨g, k * 6, none⟩ = some (.int .i64 x.from_) ∧ w.cell? ⟨g, k * 6 + 3, none⟩ = some (.int .u8 x.target.toNat) := by
  have key : ∀ o v, o < 6 → x.cells[o]? = some v → w.cell? ⟨g, k * 6 + o, none⟩ = some v := fun o v ho hv =>
    (row_cell h3 (k * 6 + o) v (by rw [flat_get TrR.cells 6 (fun _ => rfl) tr k o x hx ho]; exact hv)).1
  exact ⟨key 0 _ (by omega) rfl, key 3 _ (by omega) rfl⟩

set_option maxRecDepth 100000 in
set_option maxHeartbeats 4000000 in
theorem within_walk (s a O S : ByteArray) (eP : Int) (hm : s.size ≤ maxLen) (hE : (rdE s).1 = 0) (h157 : s.size ≤ 157) (h400 : a.size ≤ 400) (hS : S.size ≤ 1000000) (hS0 : S ≠ ⟨#[]⟩) (hst0 : 0 < (rd s).st.length) (hsl : (rd s).st.length ≤ 26) (htl : (rd s).tr.length ≤ 1000000)
    (hplay : ∀ w, Calls Try.prog 16 #[.string s, .string a] w fun e w' => e = .returned (.tuple #[.string O, .string S, .int .i64 0, .int .i64 eP]) ∧ Fr (fun _ => False) w w')
    (hplay2 : ∀ c, WiC0 (rd s).st (rd s).tr c → ∀ w, Calls Try.prog 16 #[.string (⟨#[c]⟩ ++ ⟨#[40]⟩ ++ s ++ ⟨#[41]⟩), .string a] w fun e w' => e = .returned (.tuple #[.string O, .string (⟨#[c]⟩ ++ S), .int .i64 0, .int .i64 0]) ∧ Fr (fun _ => False) w w') (w : World) :
    Calls Try.prog 9 #[.string s, .string a] w fun e w' => e = .returned (.bool true) ∧ Fr (fun _ => False) w w' := by
  have HP : Hid _ := hplay
  have HP2 : Hid _ := hplay2
  have hS1 : S.toList.isEmpty = false := by
    rw [List.isEmpty_eq_false_iff]
    intro h
    apply hS0
    apply ByteArray.ext
    apply Array.toList_inj.1
    have h1 : S.toList = S.data.toList := ByteArray.toList_eq S
    rw [← h1, h]
  have h157' : decide ((157 : Int) < s.size) = false := by simp; omega
  have h400' : decide ((400 : Int) < a.size) = false := by simp; omega
  have h157N : decide (157 < s.size) = false := by simp; omega
  have h400N : decide (400 < a.size) = false := by simp; omega
  have hne : (((rdE s).1 : Int) != 0) = false := by rw [hE]; rfl
  clear hplay hplay2 hS0
  go_enter Try.func9, Try.ntmps9
  go_wp2_with fail
  refine (read_any w s hm).mono ?_
  rintro e w2 ⟨⟨v3, v4, v5, v6⟩, rfl, ⟨⟨a3, n3, c3, e3⟩, ⟨a4, n4, c4, e4⟩, ⟨a5, n5, c5, e5⟩, ⟨a6, n6, c6, e6⟩⟩, hf2, hch⟩
  simp only at e3 e4 e5 e6
  subst e3 e4 e5 e6
  have hch2 := hch hE
  have hr3 := hch2.r3
  have hr4 := hch2.r4
  obtain ⟨va, vc, hv⟩ := row_len hr3
  obtain ⟨va4, vc4, hv4⟩ := row_len hr4
  simp only at hv hv4
  injection hv with q1 q2 q3
  injection hv4 with p1 p2 p3
  subst q1 q2 q3 p1 p2 p3
  generalize hst : (rd s).st = sts at *
  generalize htr : (rd s).tr = trs at *
  have hbk := Blk.new w2 #[.slice a3 sts.length c3, .slice a4 trs.length c4, .slice a5 n5 c5, .slice a6 n6 c6] 39
  have hr3' := row_fr hr3 (Fr.alloc (fun _ => False) w2 (.cells #[.slice a3 sts.length c3, .slice a4 trs.length c4, .slice a5 n5 c5, .slice a6 n6 c6] 39)) (fun _ _ h => h)
  have hr4' := row_fr hr4 (Fr.alloc (fun _ => False) w2 (.cells #[.slice a3 sts.length c3, .slice a4 trs.length c4, .slice a5 n5 c5, .slice a6 n6 c6] 39)) (fun _ _ h => h)
  have hfa := hf2.allocr (.cells #[.slice a3 sts.length c3, .slice a4 trs.length c4, .slice a5 n5 c5, .slice a6 n6 c6] 39)
  simp only at hr3' hr4'
  clear hch hch2 hr3 hr4 hf2 hst htr hE
  go_wp2_with fail
  generalize w2.alloc (.cells #[.slice a3 sts.length c3, .slice a4 trs.length c4, .slice a5 n5 c5, .slice a6 n6 c6] 39) = W at hbk hr3' hr4' hfa ⊢
  generalize w2.heap.size = cb at hbk ⊢
  obtain ⟨g3, cc3, hv3, hcc3⟩ := row_form hr3' (by omega)
  injection hv3 with e1 e2 e3
  subst e1
  subst e3
  clear e2
  obtain ⟨x0, hx0⟩ : ∃ x, sts[0]? = some x := ⟨_, List.getElem?_eq_getElem (by omega)⟩
  have HX0 : Hid (sts[0]? = some x0) := hx0
  clear hx0
  go_loopw [9] (fun vk wr => ∃ k : Nat, k ≤ sts.length ∧ vk = .int .i64 k ∧ Hid (∀ (j : Nat) (x : StR), j < k → sts[j]? = some x → x.depth < 6) ∧ Fr (fun _ => False) W wr) (fun vk _ => sts.length - (intOf vk).toNat)
  case atStart => exact ⟨0, Nat.zero_le _, rfl, fun j x hj => (by omega), Fr.refl _ _⟩
  case round =>
    obtain ⟨k, hk, rfl, HD, hfr⟩ := hrel
    have hbi := Blk.fr hbk hfr (fun h => h)
    have hri := row_fr hr3' hfr (fun _ _ h => h)
    have hri4 := row_fr hr4' hfr (fun _ _ h => h)
    have hfw := hfa.thenr hfr (fun _ _ h => h)
    have q0 : wr.cell? ⟨cb, 0, none⟩ = some (.slice (some ⟨g3, 0, none⟩) sts.length c3) := by rw [Blk.cell hbi]; rfl
    by_cases hlt : (k : Int) < sts.length
    · have hlt' : k < sts.length := by omega
      obtain ⟨x, hx⟩ : ∃ x, sts[k]? = some x := ⟨_, List.getElem?_eq_getElem hlt'⟩
      obtain ⟨-, -, -, z3, -⟩ := st8 hri hx
      have HX : Hid (sts[k]? = some x) := hx
      clear hx
      by_cases hd : (6 : Int) ≤ x.depth
      · go_wp2_with fail
        go_ret
        exact ⟨rfl, hfw⟩
      · have hd' : decide ((6 : Int) ≤ x.depth) = false := by simp; omega
        have hdN : decide (6 ≤ x.depth) = false := by simp; omega
        have HD2 : Hid (x.depth < 6) := by show _ < _; omega
        go_wp2_with fail
        go_roundw
        case rel => exact ⟨k + 1, by omega, by go_num, fun j y hj hy => (by
          by_cases e : j = k
          · subst e
            have h1 := HX.out
            rw [h1] at hy
            injection hy with hy
            subst hy
            exact HD2.out
          · exact HD.out j y (by omega) hy), hfr⟩
        case measure => simp [intOf]; omega
    · have HDA : Hid (∀ (j : Nat) (x : StR), sts[j]? = some x → x.depth < 6) := fun j x hx => HD.out j x (by have := (List.getElem?_eq_some_iff.1 hx).1; omega) hx
      clear HD
      go_wp2_with fail
      clear q0 hbk hr3' hr4' hfa hfr
      rename World => W1
      go_loopw [8] (fun vw wr => ∃ c : UInt8, vw = .int .u8 c.toNat ∧ 65 ≤ c.toNat ∧ c.toNat ≤ 90 ∧ Fr (fun _ => False) W1 wr) (fun vw _ => 90 - (intOf vw).toNat)
      case atStart => exact ⟨65, rfl, by decide, by decide, Fr.refl _ _⟩
      case round =>
        obtain ⟨c, rfl, hc1, hc2, hfr2⟩ := hrel
        have hb2 := Blk.fr hbi hfr2 (fun h => h)
        have hr2 := row_fr hri hfr2 (fun _ _ h => h)
        have hr24 := row_fr hri4 hfr2 (fun _ _ h => h)
        have hfw2 := hfw.thenr hfr2 (fun _ _ h => h)
        rename World => W2
        obtain ⟨d0, d1, d2, d3⟩ : W2.cell? ⟨cb, 0, none⟩ = some (.slice (some ⟨g3, 0, none⟩) sts.length c3) ∧ W2.cell? ⟨cb, 1, none⟩ = some (.slice a4 trs.length c4) ∧ W2.cell? ⟨cb, 2, none⟩ = some (.slice a5 n5 c5) ∧ W2.cell? ⟨cb, 3, none⟩ = some (.slice a6 n6 c6) := by
          refine ⟨?_, ?_, ?_, ?_⟩ <;> (rw [Blk.cell hb2]; rfl)
        have hns := nmS_size sts sts.length
        by_cases hz : (c.toNat : Int) < 90
        · go_wp2_with fail
          refine (lawNames_any W2 _ _ _ _ _ _ _ _ _ _ _ sts hr2 (by omega)).mono ?_
          rintro e w3 ⟨rfl, hf3⟩
          go_wp2_with fail
          refine (has_any _ _ c (by omega)).mono ?_
          rintro e w4 ⟨rfl, hf4⟩
          have hf34 := hf3.thenr hf4 (fun _ _ h => h)
          cases hh : hasB (nmS sts sts.length) c with
          | true =>
            clear hh
            obtain ⟨c', hc'⟩ : ∃ c' : UInt8, c'.toNat = c.toNat + 1 := ⟨UInt8.ofNat (c.toNat + 1), by rw [UInt8.toNat_ofNat', Nat.mod_eq_of_lt (by omega)]⟩
            have HC' : Hid (c'.toNat = c.toNat + 1) := hc'
            clear hc'
            go_wp2_with fail
            go_roundw
            case rel => exact ⟨c', (by rw [HC'.out]; go_num), by rw [HC'.out]; omega, by rw [HC'.out]; omega, hfr2.thenr hf34 (fun _ _ h => h)⟩
            case measure => simp [intOf]; omega
          | false =>
            have hbA := Blk.fr hb2 hf34 (fun h => h)
            have hrA := row_fr hr2 hf34 (fun _ _ h => h)
            have hrA4 := row_fr hr24 hf34 (fun _ _ h => h)
            have hfwA := hfw2.thenr hf34 (fun _ _ h => h)
            obtain ⟨d0, d1, d2, d3⟩ : w4.cell? ⟨cb, 0, none⟩ = some (.slice (some ⟨g3, 0, none⟩) sts.length c3) ∧ w4.cell? ⟨cb, 1, none⟩ = some (.slice a4 trs.length c4) ∧ w4.cell? ⟨cb, 2, none⟩ = some (.slice a5 n5 c5) ∧ w4.cell? ⟨cb, 3, none⟩ = some (.slice a6 n6 c6) := by
              refine ⟨?_, ?_, ?_, ?_⟩ <;> (rw [Blk.cell hbA]; rfl)
            clear hh
            go_wp2_with fail
            refine (lawNames_any w4 _ _ _ _ _ _ _ _ _ _ _ sts hrA (by omega)).mono ?_
            rintro e w5 ⟨rfl, hf5⟩
            go_wp2_with fail
            refine (has_any _ _ c (by omega)).mono ?_
            rintro e w6 ⟨rfl, hf6⟩
            have hf56 := hf5.thenr hf6 (fun _ _ h => h)
            have hb6 := Blk.fr hbA hf56 (fun h => h)
            have hr6 := row_fr hrA hf56 (fun _ _ h => h)
            have hr64 := row_fr hrA4 hf56 (fun _ _ h => h)
            have hfw6 := hfwA.thenr hf56 (fun _ _ h => h)
            obtain ⟨g0, g1, g2, g3'⟩ : w6.cell? ⟨cb, 0, none⟩ = some (.slice (some ⟨g3, 0, none⟩) sts.length c3) ∧ w6.cell? ⟨cb, 1, none⟩ = some (.slice a4 trs.length c4) ∧ w6.cell? ⟨cb, 2, none⟩ = some (.slice a5 n5 c5) ∧ w6.cell? ⟨cb, 3, none⟩ = some (.slice a6 n6 c6) := by
              refine ⟨?_, ?_, ?_, ?_⟩ <;> (rw [Blk.cell hb6]; rfl)
            obtain ⟨y0, -, -, -, y4, -⟩ := st8 hr6 HX0.out
            simp only [Nat.zero_mul, Nat.zero_add] at y0 y4
            cases hh2 : hasB (nmS sts sts.length) c with
            | true =>
              clear hh2
              go_wp2_with fail
              go_ret
              exact ⟨rfl, hfw6⟩
            | false =>
              have HNM : Hid (hasB (nmS sts sts.length) c = false) := hh2
              clear hh2
              by_cases hkd : x0.kind = 1
              · have hkb : ((x0.kind : Int) != 1) = false := by rw [hkd]; rfl
                have HKD : Hid (x0.kind = 1) := hkd
                clear hkd
                go_wp2_with fail
                clear d0 d1 d2 d3 g2 g3' y0 y4
                go_loopw [10] (fun vk wr => ∃ k : Nat, k ≤ trs.length ∧ vk = .int .i64 k ∧ Hid (∀ (j : Nat) (y : TrR), j < k → trs[j]? = some y → y.from_ ≠ 0 ∧ y.target ≠ x0.name) ∧ Fr (fun _ => False) w6 wr) (fun vk _ => trs.length - (intOf vk).toNat)
                case atStart => exact ⟨0, Nat.zero_le _, rfl, fun j y hj => (by omega), Fr.refl _ _⟩
                case round =>
                  obtain ⟨k, hk', rfl, HT, hfr7⟩ := hrel
                  have hb7 := Blk.fr hb6 hfr7 (fun h => h)
                  have hr7 := row_fr hr6 hfr7 (fun _ _ h => h)
                  have hr74 := row_fr hr64 hfr7 (fun _ _ h => h)
                  have hfw7 := hfw6.thenr hfr7 (fun _ _ h => h)
                  rename World => w7
                  have u0 : w7.cell? ⟨cb, 0, none⟩ = some (.slice (some ⟨g3, 0, none⟩) sts.length c3) := by rw [Blk.cell hb7]; rfl
                  have u1 : w7.cell? ⟨cb, 1, none⟩ = some (.slice a4 trs.length c4) := by rw [Blk.cell hb7]; rfl
                  obtain ⟨y0, -, -, -, -, -⟩ := st8 hr7 HX0.out
                  simp only [Nat.zero_mul, Nat.zero_add] at y0
                  clear g0 g1
                  by_cases hkt : (k : Int) < trs.length
                  · have hkt' : k < trs.length := by omega
                    obtain ⟨g4, cc4, hv4, hcc4⟩ := row_form hr74 (by omega)
                    injection hv4 with e1 e2 e3
                    subst e1
                    subst e3
                    clear e2
                    obtain ⟨y, hy⟩ : ∃ y, trs[k]? = some y := ⟨_, List.getElem?_eq_getElem hkt'⟩
                    obtain ⟨t0, t3⟩ := tr6w hr74 hy
                    have HY : Hid (trs[k]? = some y) := hy
                    clear hy
                    by_cases hf0 : y.from_ = 0
                    · have fb : ((y.from_ : Int) == 0) = true := by rw [hf0]; rfl
                      clear hf0
                      go_wp2_with fail
                      go_big_quiet (fail)
                      go_wp2_with fail
                      go_ret
                      exact ⟨rfl, hfw7.drewNr _⟩
                    · have fb : ((y.from_ : Int) == 0) = false := by rw [beq_eq_false_iff_ne]; omega
                      have HF0 : Hid (y.from_ ≠ 0) := hf0
                      clear hf0
                      by_cases ht0 : y.target = x0.name
                      · have tb : ((y.target.toNat : Int) == x0.name.toNat) = true := by rw [ht0]; simp
                        clear ht0
                        go_wp2_with fail
                        go_big_quiet (fail)
                        go_wp2_with fail
                        go_ret
                        exact ⟨rfl, hfw7.drewNr _⟩
                      · have tb : ((y.target.toNat : Int) == x0.name.toNat) = false := by
                          rw [beq_eq_false_iff_ne]; intro h; exact ht0 (UInt8.toNat_inj.1 (by omega))
                        have HT0 : Hid (y.target ≠ x0.name) := ht0
                        clear ht0
                        go_wp2_with fail
                        go_big_quiet (fail)
                        go_wp2_with fail
                        go_roundw
                        case rel => exact ⟨k + 1, by omega, by go_num, fun j z hj hz => (by
                          by_cases e : j = k
                          · subst e
                            have h1 := HY.out
                            rw [h1] at hz
                            injection hz with hz
                            subst hz
                            exact ⟨HF0.out, HT0.out⟩
                          · exact HT.out j z (by omega) hz), hfr7.drewNr _⟩
                        case measure => simp [intOf]; omega
                  · have HC : Hid (WiC0 sts trs c) := ⟨hc1, hc2, HNM.out, HDA.out, fun x hx => (by
                      have h1 := HX0.out
                      rw [h1] at hx
                      injection hx with hx
                      subst hx
                      exact HKD.out), fun j y x hy hx => (by
                      have h1 := HX0.out
                      rw [h1] at hx
                      injection hx with hx
                      subst hx
                      exact HT.out j y (by have := (List.getElem?_eq_some_iff.1 hy).1; omega) hy)⟩
                    have HFW : Hid _ := hfw7
                    clear HT hfw7 hfr7 hfw6
                    have hcv := conv_one_w w7 w7.heap.size rfl c
                    go_wp2_with fail
                    refine (HP.out _).mono ?_
                    rintro e w8 ⟨rfl, hf8⟩
                    clear hcv
                    go_wp2_with fail
                    refine (HP2.out c HC.out _).mono ?_
                    rintro e w9 ⟨rfl, hf9⟩
                    have HF9 : Hid _ := ((HFW.out.allocr (.cells #[.int .u8 c.toNat] 5)).thenr hf8 (fun _ _ h => h)).thenr hf9 (fun _ _ h => h)
                    clear hf8 hf9 HFW
                    go_wp2_with fail
                    refine (lawNum_any _ _).mono ?_
                    rintro e w10 ⟨rfl, rfl⟩
                    go_wp2_with fail
                    refine (lawNum_any _ _).mono ?_
                    rintro e w11 ⟨rfl, rfl⟩
                    go_wp2_with fail
                    go_ret
                    exact ⟨rfl, HF9.out⟩
              · have hkb : ((x0.kind : Int) != 1) = true := by rw [bne_iff_ne]; omega
                clear hkd
                go_wp2_with fail
                go_ret
                exact ⟨rfl, hfw6⟩

        ·
          have hzN : decide (c.toNat < 90) = false := by simp; omega
          have hzI : decide ((c.toNat : Int) < 90) = false := by simp; omega
          go_wp2_with fail
          refine (lawNames_any W2 _ _ _ _ _ _ _ _ _ _ _ sts hr2 (by omega)).mono ?_
          rintro e w5 ⟨rfl, hf5⟩
          go_wp2_with fail
          refine (has_any _ _ c (by omega)).mono ?_
          rintro e w6 ⟨rfl, hf6⟩
          have hf56 := hf5.thenr hf6 (fun _ _ h => h)
          have hb6 := Blk.fr hb2 hf56 (fun h => h)
          have hr6 := row_fr hr2 hf56 (fun _ _ h => h)
          have hr64 := row_fr hr24 hf56 (fun _ _ h => h)
          have hfw6 := hfw2.thenr hf56 (fun _ _ h => h)
          obtain ⟨g0, g1, g2, g3'⟩ : w6.cell? ⟨cb, 0, none⟩ = some (.slice (some ⟨g3, 0, none⟩) sts.length c3) ∧ w6.cell? ⟨cb, 1, none⟩ = some (.slice a4 trs.length c4) ∧ w6.cell? ⟨cb, 2, none⟩ = some (.slice a5 n5 c5) ∧ w6.cell? ⟨cb, 3, none⟩ = some (.slice a6 n6 c6) := by
            refine ⟨?_, ?_, ?_, ?_⟩ <;> (rw [Blk.cell hb6]; rfl)
          obtain ⟨y0, -, -, -, y4, -⟩ := st8 hr6 HX0.out
          simp only [Nat.zero_mul, Nat.zero_add] at y0 y4
          cases hh2 : hasB (nmS sts sts.length) c with
          | true =>
            clear hh2
            go_wp2_with fail
            go_ret
            exact ⟨rfl, hfw6⟩
          | false =>
            have HNM : Hid (hasB (nmS sts sts.length) c = false) := hh2
            clear hh2
            by_cases hkd : x0.kind = 1
            · have hkb : ((x0.kind : Int) != 1) = false := by rw [hkd]; rfl
              have HKD : Hid (x0.kind = 1) := hkd
              clear hkd
              go_wp2_with fail
              clear d0 d1 d2 d3 g2 g3' y0 y4
              go_loopw [10] (fun vk wr => ∃ k : Nat, k ≤ trs.length ∧ vk = .int .i64 k ∧ Hid (∀ (j : Nat) (y : TrR), j < k → trs[j]? = some y → y.from_ ≠ 0 ∧ y.target ≠ x0.name) ∧ Fr (fun _ => False) w6 wr) (fun vk _ => trs.length - (intOf vk).toNat)
              case atStart => exact ⟨0, Nat.zero_le _, rfl, fun j y hj => (by omega), Fr.refl _ _⟩
              case round =>
                obtain ⟨k, hk', rfl, HT, hfr7⟩ := hrel
                have hb7 := Blk.fr hb6 hfr7 (fun h => h)
                have hr7 := row_fr hr6 hfr7 (fun _ _ h => h)
                have hr74 := row_fr hr64 hfr7 (fun _ _ h => h)
                have hfw7 := hfw6.thenr hfr7 (fun _ _ h => h)
                rename World => w7
                have u0 : w7.cell? ⟨cb, 0, none⟩ = some (.slice (some ⟨g3, 0, none⟩) sts.length c3) := by rw [Blk.cell hb7]; rfl
                have u1 : w7.cell? ⟨cb, 1, none⟩ = some (.slice a4 trs.length c4) := by rw [Blk.cell hb7]; rfl
                obtain ⟨y0, -, -, -, -, -⟩ := st8 hr7 HX0.out
                simp only [Nat.zero_mul, Nat.zero_add] at y0
                clear g0 g1
                by_cases hkt : (k : Int) < trs.length
                · have hkt' : k < trs.length := by omega
                  obtain ⟨g4, cc4, hv4, hcc4⟩ := row_form hr74 (by omega)
                  injection hv4 with e1 e2 e3
                  subst e1
                  subst e3
                  clear e2
                  obtain ⟨y, hy⟩ : ∃ y, trs[k]? = some y := ⟨_, List.getElem?_eq_getElem hkt'⟩
                  obtain ⟨t0, t3⟩ := tr6w hr74 hy
                  have HY : Hid (trs[k]? = some y) := hy
                  clear hy
                  by_cases hf0 : y.from_ = 0
                  · have fb : ((y.from_ : Int) == 0) = true := by rw [hf0]; rfl
                    clear hf0
                    go_wp2_with fail
                    go_big_quiet (fail)
                    go_wp2_with fail
                    go_ret
                    exact ⟨rfl, hfw7.drewNr _⟩
                  · have fb : ((y.from_ : Int) == 0) = false := by rw [beq_eq_false_iff_ne]; omega
                    have HF0 : Hid (y.from_ ≠ 0) := hf0
                    clear hf0
                    by_cases ht0 : y.target = x0.name
                    · have tb : ((y.target.toNat : Int) == x0.name.toNat) = true := by rw [ht0]; simp
                      clear ht0
                      go_wp2_with fail
                      go_big_quiet (fail)
                      go_wp2_with fail
                      go_ret
                      exact ⟨rfl, hfw7.drewNr _⟩
                    · have tb : ((y.target.toNat : Int) == x0.name.toNat) = false := by
                        rw [beq_eq_false_iff_ne]; intro h; exact ht0 (UInt8.toNat_inj.1 (by omega))
                      have HT0 : Hid (y.target ≠ x0.name) := ht0
                      clear ht0
                      go_wp2_with fail
                      go_big_quiet (fail)
                      go_wp2_with fail
                      go_roundw
                      case rel => exact ⟨k + 1, by omega, by go_num, fun j z hj hz => (by
                        by_cases e : j = k
                        · subst e
                          have h1 := HY.out
                          rw [h1] at hz
                          injection hz with hz
                          subst hz
                          exact ⟨HF0.out, HT0.out⟩
                        · exact HT.out j z (by omega) hz), hfr7.drewNr _⟩
                      case measure => simp [intOf]; omega
                · have HC : Hid (WiC0 sts trs c) := ⟨hc1, hc2, HNM.out, HDA.out, fun x hx => (by
                    have h1 := HX0.out
                    rw [h1] at hx
                    injection hx with hx
                    subst hx
                    exact HKD.out), fun j y x hy hx => (by
                    have h1 := HX0.out
                    rw [h1] at hx
                    injection hx with hx
                    subst hx
                    exact HT.out j y (by have := (List.getElem?_eq_some_iff.1 hy).1; omega) hy)⟩
                  have HFW : Hid _ := hfw7
                  clear HT hfw7 hfr7 hfw6
                  have hcv := conv_one_w w7 w7.heap.size rfl c
                  go_wp2_with fail
                  refine (HP.out _).mono ?_
                  rintro e w8 ⟨rfl, hf8⟩
                  clear hcv
                  go_wp2_with fail
                  refine (HP2.out c HC.out _).mono ?_
                  rintro e w9 ⟨rfl, hf9⟩
                  have HF9 : Hid _ := ((HFW.out.allocr (.cells #[.int .u8 c.toNat] 5)).thenr hf8 (fun _ _ h => h)).thenr hf9 (fun _ _ h => h)
                  clear hf8 hf9 HFW
                  go_wp2_with fail
                  refine (lawNum_any _ _).mono ?_
                  rintro e w10 ⟨rfl, rfl⟩
                  go_wp2_with fail
                  refine (lawNum_any _ _).mono ?_
                  rintro e w11 ⟨rfl, rfl⟩
                  go_wp2_with fail
                  go_ret
                  exact ⟨rfl, HF9.out⟩
            · have hkb : ((x0.kind : Int) != 1) = true := by rw [bne_iff_ne]; omega
              clear hkd
              go_wp2_with fail
              go_ret
              exact ⟨rfl, hfw6⟩
end Go.Proofs.Ytmolmbeeoecnfaa
