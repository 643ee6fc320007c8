/- Own work: walks of the player: isAmong, firstPossible, calledFrom. -/
import Derived.Test.YtmolmbeeoecnfaaPy7
namespace Go.Proofs.Ytmolmbeeoecnfaa
open Go.RowKit Go.BigFrame
set_option linter.unusedVariables false
set_option linter.unusedSimpArgs false

def inV (ns : List Nat) : List Value := ns.map fun (n : Nat) => Value.int .i64 (n : Int)
theorem inV_get {ns : List Nat} {k n : Nat} (h : ns[k]? = some n) : (inV ns)[k]? = some (.int .i64 (n : Int)) := by simp [inV, h]
def isAt (ns : List Nat) (n k : Nat) : Bool := match ns[k]? with | some m => m == n | none => false
def amng (ns : List Nat) (n : Nat) : Bool := (firstB (isAt ns n) ns.length).isSome

set_option maxRecDepth 100000 in
set_option maxHeartbeats 1000000 in
theorem isAmong_any (w : World) (ns : List Nat) (v : Value) (n : Nat) (hr : w.ownsRow 0 3 1 v ns.length (inV ns)) (hl : ns.length ≤ 1000000) :
    Calls Try.prog 74 #[v, .int .i64 n] w fun e w' => e = .returned (.bool (amng ns n)) ∧ Fr (fun _ => False) w w' := by
  obtain ⟨va, vc, hv⟩ := row_len hr
  have HV : Hid _ := hv
  have HC : Hid _ := hr
  rw [hv]
  clear hv hr
  go_enter Try.func74, Try.ntmps74
  go_wp2_with fail

  go_loopw [9] (fun i wr => ∃ k : Nat, k ≤ ns.length ∧ i = .int .i64 k ∧ Hid (∀ j, j < k → isAt ns n j = false) ∧ Fr (fun _ => False) w wr) (fun i _ => ns.length - (intOf i).toNat)
  case atStart => exact ⟨0, Nat.zero_le _, rfl, fun j hj => by omega, Fr.refl _ _⟩
  case round =>
    obtain ⟨k, hk, rfl, HJ, hfr⟩ := hrel
    by_cases hlt : (k : Int) < ns.length
    · have hlt' : k < ns.length := by omega
      obtain ⟨gg, cc, hv3, hcc⟩ := row_form HC.out (by omega)
      have hvv := HV.out.symm.trans hv3
      injection hvv with q1 q2 q3
      subst q1
      subst q3
      clear q2
      obtain ⟨x, hx⟩ : ∃ x, ns[k]? = some x := ⟨_, List.getElem?_eq_getElem hlt'⟩
      have hr := row_fr HC.out hfr (fun _ _ h => h)
      rw [hv3] at hr
      have x0 := (row_cell hr k _ (inV_get hx)).1
      have HF : Hid (isAt ns n k = (x == n)) := by show _ = _; simp [isAt, hx]
      clear hr hv3 hx
      by_cases e : x = n
      · have HG : Hid (amng ns n = true) := by
          show _ = _
          rw [amng, firstB_some (isAt ns n) k (by rw [HF.out]; simp [e]) HJ.out _ hlt']; rfl
        subst e
        go_wp2_with fail
        go_ret
        exact ⟨ret_b HG.out.symm, hfr⟩
      · have e' : ((x : Int) == n) = false := by rw [beq_eq_false_iff_ne]; omega
        go_wp2_with fail
        go_roundw
        case rel => exact ⟨k + 1, by omega, by go_num, below_step HJ.out (by rw [HF.out]; simpa using e), hfr⟩
        case measure => simp [intOf]; omega
    · have HG : Hid (amng ns n = false) := by
        show _ = _
        rw [amng, firstB_none (isAt ns n) _ (fun j hj => HJ.out j (by omega))]; rfl
      go_wp2_with fail
      go_ret
      exact ⟨ret_b HG.out.symm, hfr⟩

theorem tr9 {w : World} {th : List TrH} {g n c k : Nat} {x : TrH} (h3 : w.ownsRow 0 123 9 (.slice (some ⟨g, 0, none⟩) n c) n (th.flatMap TrH.cells)) (hx : th[k]? = some x) :
    w.cell? ⟨g, k * 9, none⟩ = some (.int .i64 x.q.own) ∧ w.cell? ⟨g, k * 9 + 1, none⟩ = some (.int .u8 x.q.event.toNat) ∧ w.cell? ⟨g, k * 9 + 2, none⟩ = some x.cv ∧ w.cell? ⟨g, k * 9 + 3, none⟩ = some (.int .u8 x.q.tn.toNat) ∧
    w.cell? ⟨g, k * 9 + 4, none⟩ = some (.int .i64 x.q.tp) ∧ w.cell? ⟨g, k * 9 + 5, none⟩ = some (.int .i64 x.q.ts) ∧ w.cell? ⟨g, k * 9 + 6, none⟩ = some (.int .u8 x.q.mark.toNat) ∧ w.cell? ⟨g, k * 9 + 7, none⟩ = some (.int .i64 x.q.mp) ∧ w.cell? ⟨g, k * 9 + 8, none⟩ = some (.string x.q.acts) := by
  have key : ∀ o v, o < 9 → x.cells[o]? = some v → w.cell? ⟨g, k * 9 + o, none⟩ = some v := fun o v ho hv =>
    (row_cell h3 (k * 9 + o) v (by rw [flat_get TrH.cells 9 TrH.len th k o x hx ho]; exact hv)).1
  exact ⟨key 0 _ (by omega) rfl, key 1 _ (by omega) rfl, key 2 _ (by omega) rfl, key 3 _ (by omega) rfl, key 4 _ (by omega) rfl, key 5 _ (by omega) rfl, key 6 _ (by omega) rfl, key 7 _ (by omega) rfl, key 8 _ (by omega) rfl⟩

/-- What is said of a plan's transitions. -/
def ThOk (st : List StP) (th : List TrH) : Prop := ∀ t ∈ th, TrOk st t.q ∧ CdOn t.q.conds ∧ t.q.conds.length ≤ 1000000
def posB (th : List TrH) (act : List Bool) (s : Nat) (ev : UInt8) (k : Nat) : Bool := match th[k]? with | some t => t.q.own == s && (t.q.event == ev && holdB act t.q.conds) | none => false
def fpo (th : List TrH) (act : List Bool) (s : Nat) (ev : UInt8) : Int := match firstB (posB th act s ev) th.length with | some k => k | none => -1

set_option maxRecDepth 100000 in
set_option maxHeartbeats 1000000 in
theorem firstPossible_any (w : World) (b : Nat) (st : List StP) (ws : Ws) (p : Py) (vo : Value) (s : Nat) (ev : UInt8) (hp : PyV w b st ws p vo) (ht : ThOk st ws.th) (hl : ws.th.length ≤ 1000000) :
    Calls Try.prog 102 #[.pointer (some ⟨b, 0, none⟩), .int .i64 s, .int .u8 ev.toNat] w fun e w' => e = .returned (.int .i64 (fpo ws.th p.act s ev)) ∧ Fr (fun _ => False) w w' := by
  obtain ⟨va, vc, hv⟩ := row_len hp.pl.r3
  have c1 := hp.c1
  rw [hv] at c1
  have HV : Hid _ := hv
  have HP : Hid (PyV w b st ws p vo) := hp
  have HT : Hid (ThOk st ws.th) := ht
  clear hv hp ht
  go_enter Try.func102, Try.ntmps102
  go_wp2_with fail
  clear c1
  go_loopw [15] (fun i wr => ∃ k : Nat, k ≤ ws.th.length ∧ i = .int .i64 k ∧ Hid (∀ j, j < k → posB ws.th p.act s ev j = false) ∧ Fr (fun _ => False) w wr) (fun i _ => ws.th.length - (intOf i).toNat)
  case atStart => exact ⟨0, Nat.zero_le _, rfl, fun j hj => by omega, Fr.refl _ _⟩
  case round =>
    obtain ⟨k, hk, rfl, HJ, hfr⟩ := hrel
    by_cases hlt : (k : Int) < ws.th.length
    · have hlt' : k < ws.th.length := by omega
      have hpr := HP.out.fr0 hfr
      obtain ⟨gg, cc, hv3, hcc⟩ := row_form hpr.pl.r3 (by omega)
      have hvv := HV.out.symm.trans hv3
      injection hvv with q1 q2 q3
      subst q1
      subst q3
      clear q2
      obtain ⟨x, hx⟩ : ∃ x, ws.th[k]? = some x := ⟨_, List.getElem?_eq_getElem hlt'⟩
      have hr := hpr.pl.r3
      rw [hv3] at hr
      obtain ⟨x0, x1, x2, x3, x4, x5, x6, x7, x8⟩ := tr9 hr hx
      have hxm := List.mem_of_getElem? hx
      have hto := HT.out x hxm
      have HTO : Hid _ := hto
      have HF : Hid (posB ws.th p.act s ev k = (x.q.own == s && (x.q.event == ev && holdB p.act x.q.conds))) := by show _ = _; simp [posB, hx]
      have hrc := hpr.pl.rc x hxm
      have HRC : Hid _ := hrc
      obtain ⟨ca, ck, hcv⟩ := row_len hrc
      rw [hcv] at x2
      have HCV : Hid _ := hcv
      clear hcv
      have HPR : Hid _ := hpr
      have HI : Hid (posB ws.th p.act s ev k = true → fpo ws.th p.act s ev = k) := fun h => by
        rw [fpo, firstB_some (posB ws.th p.act s ev) k h HJ.out _ hlt']
      clear hr hv3 hx hto hrc hxm hpr
      by_cases e : x.q.own = s
      · have e' : ((x.q.own : Int) == s) = true := by simp [e]
        by_cases e2 : x.q.event = ev
        · subst e
          subst e2
          go_wp2_with fail
          have hcall := fun o => hold_any _ b st ws p vo x.cv x.q.conds (HPR.out.fr0 (Fr.alloc _ _ o)) (row_fr HRC.out (Fr.alloc (fun _ => False) _ o) (fun _ _ h => h)) HTO.out.2.1 HTO.out.2.2
          rw [HCV.out] at hcall
          refine Calls.mono (hcall _) ?_
          clear hcall
          rintro e' w2 ⟨rfl, hf2⟩
          have hfr2 := (hfr.allocr _).thenr hf2 (fun _ _ h => h)
          cases hm : holdB p.act x.q.conds with
          | true =>
            have hi := HI.out (by rw [HF.out, hm]; simp)
            have HI2 : Hid _ := hi
            clear hi
            go_wp2_with fail
            go_ret
            exact ⟨ret_i64 HI2.out.symm, hfr2⟩
          | false =>
            go_wp2_with fail
            go_roundw
            case rel => exact ⟨k + 1, by omega, by go_num, below_step HJ.out (by rw [HF.out, hm]; simp), hfr2⟩
            case measure => simp [intOf]; omega
        · have hne : ((x.q.event.toNat : Int) == ev.toNat) = false := by
            rw [beq_eq_false_iff_ne]; intro h; exact e2 (UInt8.toNat_inj.1 (by omega))
          subst e
          go_wp2_with fail
          go_roundw
          case rel => exact ⟨k + 1, by omega, by go_num, below_step HJ.out (by rw [HF.out]; simp [e2]), hfr.allocr _⟩
          case measure => simp [intOf]; omega
      · have e' : ((x.q.own : Int) == s) = false := by rw [beq_eq_false_iff_ne]; omega
        go_wp2_with fail
        go_roundw
        case rel => exact ⟨k + 1, by omega, by go_num, below_step HJ.out (by rw [HF.out]; simp [e]), hfr.allocr _⟩
        case measure => simp [intOf]; omega
    · have HI : Hid (fpo ws.th p.act s ev = -1) := by
        show _ = _
        rw [fpo, firstB_none (posB ws.th p.act s ev) _ (fun j hj => HJ.out j (by omega))]
      go_wp2_with fail
      go_ret
      exact ⟨ret_i64 HI.out.symm, hfr⟩
end Go.Proofs.Ytmolmbeeoecnfaa
