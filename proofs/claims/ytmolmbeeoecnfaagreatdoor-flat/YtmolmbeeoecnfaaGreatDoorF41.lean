/- Own work: LgD, IdB, WiY, PgA. -/
import Derived.Test.YtmolmbeeoecnfaaGreatDoorF23
import Derived.Test.YtmolmbeeoecnfaaGreatDoorF36
import Derived.Test.YtmolmbeeoecnfaaGreatDoorF39
import Derived.Test.YtmolmbeeoecnfaaGreatDoorF40
import Derived.Test.YtmolmbeeoecnfaaGreatDoorF06
import Derived.Test.YtmolmbeeoecnfaaGreatDoorF01
import Derived.Test.YtmolmbeeoecnfaaGreatDoorF03
import Derived.Test.YtmolmbeeoecnfaaGreatDoorF02
/- Own work: what the law Legal asks, out of the plain facts. -/
namespace Go.Proofs.YtmolmbeeoecnfaaGreatDoor
open Go.RowKit Go.BigFrame
set_option linter.unusedVariables false
set_option linter.unusedSimpArgs false

theorem hasB_mem (S : ByteArray) (c : UInt8) : hasB S c = true ↔ c ∈ S.data.toList := by
 unfold hasB
 rcases firstB_spec (fun k => byte S k == c) S.size with ⟨h1, h2⟩ | ⟨k, h1, h2, h3, -⟩
 ·rw [h1]
  constructor
  ·intro h; cases h
  ·intro h
   obtain ⟨k, hk⟩ := List.mem_iff_getElem?.1 h
   obtain ⟨h3, h4⟩ := List.getElem?_eq_some_iff.1 hk
   have h5 : k < S.size := h3
   have h6 := h2 k h5
   rw [beq_eq_false_iff_ne] at h6
   exact absurd (by rw [byte_in S k h5]; exact h4) h6
 ·rw [h1]
  constructor
  ·intro _
   rw [beq_iff_eq, byte_in S k h2] at h3
   rw [← h3]
   exact List.getElem_mem (l := S.data.toList) (n := k) h2
  ·intro _; rfl
structure Lk (sts : List StR) (st : List StP) : Prop where
 len : sts.length = st.length
 nm : ∀ k, nmAt sts k = nameAt st k
 pa : ∀ k, parAt sts k = outAt st k
 en : ∀ (k : Nat) (x : StR), sts[k]? = some x → x.end_ = endAt st k ∧ x.kind = kindAt st k ∧ x.name = nameAt st k
theorem un_lk {s : ByteArray} (h : (unE s).1 = 0) : Lk (rd s).st (unSt s) := by
 obtain ⟨h160, hK, hw, hv, hm⟩ := unE_ok h
 have hok : (rcR s).1 = true := by
  simp only [rcK, Bool.and_eq_true] at hK
  exact hK.1
 have hM := (rd_eq s).1 hok
 have hS := un_sm h
 have hl := hS.1
 have hg : ∀ k, (rd s).st[k]? = ((rcR s).2.st[k]?).map toR := fun k => by rw [hM.st, List.getElem?_map]
 have hnone : ∀ k, (unSt s)[k]? = none → (rcR s).2.st[k]? = none := fun k hk => by
  rw [List.getElem?_eq_none_iff] at hk ⊢; omega
 refine ⟨by rw [hM.st, List.length_map, hl], fun k => ?_, fun k => ?_, fun k x hx => ?_⟩
 ·unfold nmAt nameAt
  rw [hg]
  cases hx : (unSt s)[k]? with
  | none => rw [hnone k hx]; rfl
  | some x => obtain ⟨y, hy, hs⟩ := hS.2 k x hx; rw [hy]; exact hs.n.symm
 ·unfold parAt outAt
  rw [hg]
  cases hx : (unSt s)[k]? with
  | none => rw [hnone k hx]; rfl
  | some x => obtain ⟨y, hy, hs⟩ := hS.2 k x hx; rw [hy]; exact hs.o.symm
 ·rw [hg] at hx
  cases hz : (unSt s)[k]? with
  | none => rw [hnone k hz] at hx; cases hx
  | some z =>
   obtain ⟨y, hy, hs⟩ := hS.2 k z hz
   rw [hy] at hx
   simp only [Option.map_some, Option.some.injEq] at hx
   subst hx
   rw [endAt_at hz, kindAt_at hz, nameAt_at hz]
   exact ⟨hs.e.symm, hs.k.symm, hs.n.symm⟩
theorem byte_get {S : ByteArray} {k : Nat} {c : UInt8} (h : S.data.toList[k]? = some c) : k < S.size ∧ byte S k = c := by
 obtain ⟨h1, h2⟩ := List.getElem?_eq_some_iff.1 h
 have h3 : k < S.size := h1
 exact ⟨h3, by rw [byte_in S k h3]; exact h2⟩





structure GC where
 g3 : Nat
 c3 : Nat
 a4 : Option Addr
 c4 : Nat
 sts : List StR
 trs : List TrR
structure Ct (w : World) (G : GC) : Prop where
 r3 : w.ownsRow 0 104 8 (.slice (some ⟨G.g3, 0, none⟩) G.sts.length G.c3) G.sts.length (G.sts.flatMap StR.cells)
 r4 : w.ownsRow 0 96 6 (.slice G.a4 G.trs.length G.c4) G.trs.length (G.trs.flatMap TrR.cells)
 l3 : G.sts.length ≤ 26
 l4 : G.trs.length ≤ 1000000
theorem Ct.fr {w w' : World} {G : GC} {S : Nat → Prop} (h : Ct w G) (f : Fr S w w') (h3 : ¬ S G.g3) (h4 : ∀ k, (Value.slice G.a4 G.trs.length G.c4).ownBlock = some k → ¬ S k) : Ct w' G :=
 ⟨row_fr h.r3 f (fun k hk => by simp [Value.ownBlock] at hk; subst hk; exact h3), row_fr h.r4 f h4, h.l3, h.l4⟩
theorem Ct.fr0 {w w' : World} {G : GC} (h : Ct w G) (f : Fr (fun _ => False) w w') : Ct w' G := h.fr f (fun h => h) (fun _ _ h => h)
structure Cp (w : World) (G : GC) (b : Nat) : Prop where
 c0 : w.cell? ⟨b, 0, none⟩ = some (.slice (some ⟨G.g3, 0, none⟩) G.sts.length G.c3)
 c1 : w.cell? ⟨b, 1, none⟩ = some (.slice G.a4 G.trs.length G.c4)
theorem Cp.fr0 {w w' : World} {G : GC} {b : Nat} (h : Cp w G b) (f : Fr (fun _ => False) w w') : Cp w' G b :=
 ⟨by rw [World.cell?_of_block (f.block b (World.block_lt_of_cell? _ _ h.c0) (fun h => h))]; exact h.c0, by rw [World.cell?_of_block (f.block b (World.block_lt_of_cell? _ _ h.c1) (fun h => h))]; exact h.c1⟩

set_option maxRecDepth 100000 in
set_option maxHeartbeats 1000000 in
theorem dbelow_any (w : World) (G : GC) (b : Nat) (hc : Ct w G) (hp : Cp w G b) (a : Int) (k : Nat) (x : StR) (hx : G.sts[k]? = some x) :
  Calls Tryz.prog 73 #[.pointer (some ⟨b, 0, none⟩), .int .i64 a, .int .i64 k] w fun e w' => e = .returned (.bool (decide ((k : Int) < a) && decide (a < (x.end_ : Int)))) ∧ Fr (fun _ => False) w w' := by
 obtain ⟨c0, c1⟩ := hp
 obtain ⟨-, -, -, -, -, x5, -, -⟩ := st8 hc.r3 hx
 have hk := (List.getElem?_eq_some_iff.1 hx).1
 have hl := hc.l3
 clear hx
 by_cases h1 : (k : Int) < a
 ·have h1' : (a > (k : Int)) := h1
  by_cases h2 : a < (x.end_ : Int)
  ·have HR : Hid ((decide ((k : Int) < a) && decide (a < (x.end_ : Int))) = true) := by show _ = _; simp [h1, h2]
   go_enter Tryz.func73, Tryz.ntmps73
   go_wp2_with fail
   go_ret
   exact ⟨by first | rfl | exact ret_bH HR.out.symm, by (repeat (first | exact Fr.refl _ _ | assumption | refine Fr.drewNr ?_ _ | refine Fr.drewr ?_ | refine Fr.allocr ?_ _ | refine Fr.setCellr ?_ _ _ (by first | exact Or.inl rfl | (right; simp; done) | (right; simp; omega))))⟩
  ·have HR : Hid ((decide ((k : Int) < a) && decide (a < (x.end_ : Int))) = false) := by show _ = _; simp [h1, h2]
   have h2' : decide (a < (x.end_ : Int)) = false := by simpa using h2
   go_enter Tryz.func73, Tryz.ntmps73
   go_wp2_with fail
   go_ret
   exact ⟨by first | rfl | exact ret_bH HR.out.symm, by (repeat (first | exact Fr.refl _ _ | assumption | refine Fr.drewNr ?_ _ | refine Fr.drewr ?_ | refine Fr.allocr ?_ _ | refine Fr.setCellr ?_ _ _ (by first | exact Or.inl rfl | (right; simp; done) | (right; simp; omega))))⟩
 ·have HR : Hid ((decide ((k : Int) < a) && decide (a < (x.end_ : Int))) = false) := by show _ = _; simp [h1]
  have h1' : decide ((k : Int) < a) = false := by simpa using h1
  go_enter Tryz.func73, Tryz.ntmps73
  go_wp2_with fail
  go_ret
  exact ⟨by first | rfl | exact ret_bH HR.out.symm, by (repeat (first | exact Fr.refl _ _ | assumption | refine Fr.drewNr ?_ _ | refine Fr.drewr ?_ | refine Fr.allocr ?_ _ | refine Fr.setCellr ?_ _ _ (by first | exact Or.inl rfl | (right; simp; done) | (right; simp; omega))))⟩

set_option maxRecDepth 100000 in
set_option maxHeartbeats 1000000 in
theorem dhas_any (w : World) (S : ByteArray) (c : UInt8) (hS : S.size ≤ 1000000) : Calls Tryz.prog 74 #[.string S, .int .u8 c.toNat] w fun e w' => e = .returned (.bool (hasB S c)) ∧ Fr (fun _ => False) w w' := by
  go_enter Tryz.func74, Tryz.ntmps74
  go_wp2_with fail
  go_loopw [5] (fun vi wr => ∃ k : Nat, k ≤ S.size ∧ vi = .int .i64 k ∧ Hid (∀ j, j < k → (byte S j == c) = false) ∧ Fr (fun _ => False) w wr) (fun vi _ => S.size - (intOf vi).toNat)
  case atStart => exact ⟨0, Nat.zero_le _, rfl, fun j hj => (by omega), Fr.refl _ _⟩
  case round =>
    obtain ⟨k, hk, rfl, HJ, hfr⟩ := hrel
    by_cases hlt : (k : Int) < S.size
    · have hlt' : k < S.size := by omega
      by_cases e : S[k] = c
      · have heq : ((S[k].toNat : Int) == c.toNat) = true := by rw [e]; simp
        have HI : Hid (hasB S c = true) := by
          show _ = _
          unfold hasB
          rw [firstB_some (fun k => byte S k == c) k (by rw [byte_in S k hlt', beq_iff_eq]; exact e) HJ.out S.size hlt']; rfl
        clear e
        go_wp2_with fail
        go_ret
        exact ⟨ret_bH HI.out.symm, hfr⟩
      · have hne : ((S[k].toNat : Int) == c.toNat) = false := by
          rw [beq_eq_false_iff_ne]; intro h; exact e (UInt8.toNat_inj.1 (by omega))
        have HB : Hid ((byte S k == c) = false) := by show _ = _; rw [byte_in S k hlt', beq_eq_false_iff_ne]; exact e
        clear e
        go_wp2_with fail
        go_roundw
        case rel => exact ⟨k + 1, by omega, by go_num, below_step HJ.out HB.out, hfr⟩
        case measure => simp [intOf]; omega
    · have HI : Hid (hasB S c = false) := by
        show _ = _
        unfold hasB
        rw [firstB_none (fun k => byte S k == c) S.size (fun j hj => HJ.out j (by omega))]; rfl
      go_wp2_with fail
      go_ret
      exact ⟨ret_bH HI.out.symm, hfr⟩

structure TqR (G : GC) (st : List StP) (t : TrR) (q : TrQ) : Prop where
 ok : TrOk st q
 fr : t.from_ = q.own
 ix : idx G.sts t.target = q.ts
set_option maxRecDepth 100000 in
set_option maxHeartbeats 1000000 in
theorem dscope_any (w : World) (G : GC) (st : List StP) (b : Nat) (hk : Lk G.sts st) (ht : Tr st) (hc : Ct w G) (hp : Cp w G b) (t : TrR) (q : TrQ) (hq : TqR G st t q) :
  Calls Tryz.prog 58 #[.pointer (some ⟨b, 0, none⟩), .agg t.cells.toArray] w fun e w' => e = .returned (.int .i64 (scOf st q)) ∧ Fr (fun _ => False) w w' := by
 obtain ⟨⟨ho, ht2, ht3⟩, hfrom, hix⟩ := hq
 have hsl := hk.len
 have hl3 := hc.l3
 have hbt := Blk.new w t.cells.toArray 96
 have hfw : Fr (fun _ => False) w (w.alloc (.cells t.cells.toArray 96)) := by (repeat (first | exact Fr.refl _ _ | assumption | refine Fr.drewNr ?_ _ | refine Fr.drewr ?_ | refine Fr.allocr ?_ _ | refine Fr.setCellr ?_ _ _ (by first | exact Or.inl rfl | (right; simp; done) | (right; simp; omega))))
 have hcw := hc.fr0 hfw
 have hpw := hp.fr0 hfw
 have q0 : t.cells.toArray[0]? = some (.int .i64 q.own) := by rw [← hfrom]; rfl
 have q3 : t.cells.toArray[3]? = some (.int .u8 t.target.toNat) := rfl
 obtain ⟨y, hy⟩ : ∃ y, G.sts[q.own]? = some y := ⟨_, List.getElem?_eq_getElem (by omega)⟩
 have hpy : y.parent = outAt st q.own := by have := hk.pa q.own; rw [parAt, hy] at this; exact this
 have hou := ht.out_lt ho
 have HTS : Hid ((q.ts.toNat : Int) = q.ts) := Int.toNat_of_nonneg ht2
 have HIX : Hid (idx G.sts t.target = q.ts) := hix
 have HY : Hid _ := hy
 have HPY : Hid _ := hpy
 generalize t.cells.toArray = T at *
 clear hp hy hpy hix hfrom
 have e0 : (w.alloc (.cells T 96)).cell? ⟨w.heap.size, 0, none⟩ = some (.int .i64 q.own) := by rw [Blk.cell hbt]; exact q0
 have e3 : (w.alloc (.cells T 96)).cell? ⟨w.heap.size, 3, none⟩ = some (.int .u8 t.target.toNat) := by rw [Blk.cell hbt]; exact q3
 go_enter Tryz.func58, Tryz.ntmps58
 go_wp2_with fail
 generalize w.alloc (.cells T 96) = W at *
 generalize w.heap.size = tb at *
 refine (index_any W b 0 _ G.sts t.target hpw.c0 hcw.r3 (by omega)).mono ?_
 rintro e w1 ⟨rfl, rfl⟩
 rw [HIX.out]
 have HPW : Hid (Cp w1 G b) := hpw
 obtain ⟨c0, c1⟩ := hpw
 obtain ⟨-, -, z2, -, -, -, -, -⟩ := st8 hcw.r3 HY.out
 rw [HPY.out] at z2
 go_wp2_with fail
 go_big_quiet (fail)
 go_wp2_with fail
 go_loopw [6] (fun i wr => ∃ s : Int, ∃ f : Nat, -1 ≤ s ∧ s < st.length ∧ s + 1 ≤ f ∧ i = .int .i64 s ∧ Hid (scF st q.ts.toNat (f + 1) s = scOf st q) ∧ Fr (fun _ => False) w1 wr) (fun i _ => (intOf i + 1).toNat)
 case atStart => exact ⟨outAt st q.own, st.length, by omega, by omega, by omega, rfl, rfl, by (repeat (first | exact Fr.refl _ _ | assumption | refine Fr.drewNr ?_ _ | refine Fr.drewr ?_ | refine Fr.allocr ?_ _ | refine Fr.setCellr ?_ _ _ (by first | exact Or.inl rfl | (right; simp; done) | (right; simp; omega))))⟩
 case round =>
  clear c0 c1 z2 e0 e3
  obtain ⟨s, f, hs1, hs2, hf, rfl, HS, hfr⟩ := hrel
  have hfo := hfw.thenr hfr (fun _ _ h => h)
  by_cases e : s = -1
  ·have HI : Hid (scOf st q = -1) := by show _ = _; rw [← HS.out, scF, if_pos e]
   subst e
   go_wp2_with fail
   go_ret
   exact ⟨ret_i64 HI.out.symm, hfo⟩
  ·obtain ⟨k, rfl⟩ : ∃ k : Nat, s = k := ⟨s.toNat, by omega⟩
   have hks : k < st.length := by omega
   have hcr := hcw.fr0 hfr
   have hpr : Cp wr G b := HPW.out.fr0 hfr
   obtain ⟨x, hx⟩ : ∃ x, G.sts[k]? = some x := ⟨_, List.getElem?_eq_getElem (by omega)⟩
   obtain ⟨E1, E2, -⟩ := hk.en k x hx
   have hpx : x.parent = outAt st k := by have := hk.pa k; rw [parAt, hx] at this; exact this
   have hox := ht.out_lt hks
   have HX : Hid _ := hx
   have HB : Hid ((decide ((k : Int) < q.ts) && decide (q.ts < (x.end_ : Int))) = isB st q.ts.toNat k) := by
    show _ = _
    unfold isB
    rw [E1, Bool.eq_iff_iff]
    simp only [Bool.and_eq_true, decide_eq_true_eq]
    omega
   have hge : decide ((0 : Int) ≤ k) = true := by simp
   clear hx
   go_wp2_with fail
   refine (dbelow_any wr G b hcr hpr q.ts k x HX.out).mono ?_
   rintro e w3 ⟨rfl, hf3⟩
   rw [HB.out]
   have hcr3 := hcr.fr0 hf3
   obtain ⟨c0, c1⟩ := hpr.fr0 hf3
   obtain ⟨-, -, z2, -, z4, -, -, -⟩ := st8 hcr3.r3 HX.out
   rw [hpx] at z2
   have hfo3 := hfo.thenr hf3 (fun _ _ h => h)
   cases hb : isB st q.ts.toNat k with
   | true =>
    by_cases hkd : x.kind = 1
    ·have kb : ((x.kind : Int) == 1) = true := by rw [hkd]; rfl
     have HI : Hid (scOf st q = k) := by
      show _ = _
      rw [← HS.out, scF, if_neg (by omega), Int.toNat_natCast, if_pos]
      rw [hb, ← E2, hkd]; rfl
     clear hkd E2
     go_wp2_with fail
     go_ret
     exact ⟨ret_i64 HI.out.symm, hfo3⟩
    ·have kb : ((x.kind : Int) == 1) = false := by rw [beq_eq_false_iff_ne]; omega
     have HI : Hid (scF st q.ts.toNat f (outAt st k) = scOf st q) := by
      show _ = _
      rw [← HS.out]
      conv => rhs; unfold scF
      rw [if_neg (by omega), Int.toNat_natCast, if_neg]
      rw [← E2]
      simp [hkd]
     clear hkd E2
     go_wp2_with fail
     go_roundw
     case rel => exact ⟨outAt st k, f - 1, by omega, by omega, by omega, rfl, (by show _ = _; rw [show f - 1 + 1 = f by omega]; exact HI.out), hfr.thenr hf3 (fun _ _ h => h)⟩
     case measure => simp [intOf]; omega
   | false =>
    have HI : Hid (scF st q.ts.toNat f (outAt st k) = scOf st q) := by
     show _ = _
     rw [← HS.out]
     conv => rhs; unfold scF
     rw [if_neg (by omega), Int.toNat_natCast, if_neg]
     rw [hb]; simp
    clear E2
    go_wp2_with fail
    go_roundw
    case rel => exact ⟨outAt st k, f - 1, by omega, by omega, by omega, rfl, (by show _ = _; rw [show f - 1 + 1 = f by omega]; exact HI.out), hfr.thenr hf3 (fun _ _ h => h)⟩
    case measure => simp [intOf]; omega
end Go.Proofs.YtmolmbeeoecnfaaGreatDoor
