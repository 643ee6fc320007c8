/- Own work: walks of the player: put. -/
import Derived.Test.YtmolmbeeoecnfaaPyB
import Derived.Lib.AppendStr
import Derived.Deep.LoopGhost
namespace Go.Proofs.Ytmolmbeeoecnfaa
open Go.RowKit Go.BigFrame
set_option linter.unusedVariables false
set_option linter.unusedSimpArgs false

theorem row_lenB {w : World} {B : Nat} {e : TypeId} {sz : Nat} {v : Value} {n : Nat} {xs : List Value} (h : w.ownsRow B e sz v n xs) : ∃ a c, v = .slice a n c := by
  rcases h.2 with ⟨h1, h0⟩ | ⟨g', cap, cur, hv, _⟩
  · exact ⟨none, 0, by rw [h1, h0]⟩
  · exact ⟨_, cap, hv⟩
theorem wpList_appendS {P : Program} {w : World} {ops : Array Oper} {rest : List Oper} {o : Oper} {a : Act} {Q : Exit → Act → World → Prop} (hgd : o.guard = none) (sl x : Operand) (t u : TypeId)
    (ho : o.op = .call { callee := .builtin .append, args := #[sl, x], argTypes := #[t, u] })
    (base : Nat) (e : TypeId) (he : ElemOk P t e 1 1) (hz0 : (P.info? e).bind (·.zero) = some (.int .u8 0)) (hu : P.underlying u = some .string)
    (v : Value) (n : Nat) (xs : List Value) (hs : a.eval sl = v) (hown : w.ownsRow base e 1 v n xs) (s : ByteArray) (hx : a.eval x = .string s) (hb : n + s.size ≤ 70368744177664) (hbase : base ≤ w.heap.size)
    (h : ∀ ra rc w', w'.ownsRow base e 1 (.slice ra (n + s.size) rc) (n + s.size) (xs ++ Go.Lib.strCells s) → w.grownBy w' v.ownBlock → (∀ k, k < w.heap.size → (Value.slice ra (n + s.size) rc).ownBlock = some k → v.ownBlock = some k) → wpList P ops Q rest (a.put o.dst (.slice ra (n + s.size) rc)) w') :
    wpList P ops Q (o :: rest) a w := by
  refine wpList_plain hgd fun K hK => ?_
  obtain ⟨ht, ⟨i, z, hi, hz, hsize, hby, hzs⟩, hsz⟩ := he
  rw [hi] at hz0
  have hz1 : i.zero = some (.int .u8 0) := by simpa using hz0
  obtain ⟨v', w', hr, h2, h3, h4⟩ := Go.Lib.run_append_own_string (P := P) w base t u o.type e i ht hu hi hz1 hsize hby v n xs hown s (by unfold maxLen; omega) (by omega) hbase
  obtain ⟨ra, rc, rfl⟩ := row_lenB h2
  have hold : ∀ k, k < w.heap.size → (Value.slice ra (n + s.size) rc).ownBlock = some k → v.ownBlock = some k := by
    intro k hk ho'
    have hxl : xs.length = n := by simpa using hown.1
    rcases hown.2 with ⟨rfl, rfl⟩ | ⟨g, cap, cur, rfl, hbg, hg, hnc, hcm, hcs, htake⟩
    · by_cases hm : s.size = 0
      · have := h4.2 ⟨rfl, hm⟩
        rw [this] at ho'
        simp [Value.ownBlock] at ho'
      · have hr2 := run_append_nil_string (P := P) w t u o.type e i (.int .u8 0) ht hu hi hz1 s (by omega) (by omega) (by rw [hby]; omega)
        rw [hr2] at hr
        injection hr with e1 e2
        injection e1 with e3 e4 e5
        rw [← e3] at ho'
        simp [Value.ownBlock] at ho'
        omega
    · by_cases hroom : n + s.size ≤ cap
      · have hcs' : cur.size = cap := by simpa using hcs
        have hr2 := Go.Lib.run_append_room_string (P := P) w t u o.type e i ht hu hi hsize g n cap cur hg s hroom (by omega)
        rw [hr2] at hr
        injection hr with e1 e2
        injection e1 with e3 e4 e5
        rw [← e3] at ho'
        exact ho'
      · have holds : ∀ j u, xs[j]? = some u → w.cell? ((⟨g, 0, none⟩ : Addr).add j) = some u := hown.cells (g := g) rfl
        have hr2 := Go.Lib.run_append_grow_string (P := P) w t u o.type e i (.int .u8 0) ht hu hi hz1 ⟨g, 0, none⟩ n cap xs (by rw [hsize]; simpa using hxl) holds s (by omega) (by omega) (by rw [hby]; exact growslice_fits (by omega) (by omega))
        rw [hr2] at hr
        injection hr with e1 e2
        injection e1 with e3 e4 e5
        rw [← e3] at ho'
        simp [Value.ownBlock] at ho'
        omega
  unfold Oper.wp execOp
  simp only [ho, resolve, invoke, builtin, Sem.run_bind, Sem.run_pure, Result.andThen_ok, List.map_toArray, List.map_cons, List.map_nil, hs, hx, hr]
  exact hK _ _ (h ra rc w' h2 h3 hold)

theorem elemU8 : ElemOk Try.prog 43 5 1 1 where
  ht := Try.underlying43
  info := by
    obtain ⟨i, h0, h1, h2, h3⟩ := info_parts (show (Try.prog.info? 5).map (fun i => (i.zero, i.size, i.bytes)) = some (some (.int .u8 0), 1, 1) by kernel_rfl)
    exact ⟨i, _, h0, h1, h2, h3, rfl⟩
  pos := by decide
theorem zeroU8 : (Try.prog.info? 5).bind (·.zero) = some (.int .u8 0) := by kernel_rfl

/-- The player goes on: its own block and its output's array turn. -/
structure EvY (b : Nat) (vo vo' : Value) (w w' : World) : Prop where
  fr : Fr (OwnY b vo) w w'
  own : ∀ k, k < w.heap.size → OwnY b vo' k → OwnY b vo k
section
variable {b : Nat} {vo vo' : Value} {w w' : World}
theorem EvY.refl (b : Nat) (vo : Value) (w : World) : EvY b vo vo w w := ⟨Fr.refl _ _, fun _ _ h => h⟩
theorem EvY.trans {v1 v2 v3 : Value} {w1 w2 w3 : World} (h : EvY b v1 v2 w1 w2) (k : EvY b v2 v3 w2 w3) : EvY b v1 v3 w1 w3 :=
  ⟨h.fr.thenr k.fr (fun i hi ho => h.own i hi ho), fun i hi ho => h.own i hi (k.own i (Nat.lt_of_lt_of_le hi h.fr.size) ho)⟩
theorem EvY.of_fr0 (h : Fr (fun _ => False) w w') : EvY b vo vo w w' := ⟨h.mono (fun _ _ e => e.elim), fun _ _ h => h⟩
theorem EvY.then0 {w2 : World} (h : EvY b vo vo' w w') (k : Fr (fun _ => False) w' w2) : EvY b vo vo' w w2 := h.trans (EvY.of_fr0 k)
theorem EvY.drew (h : EvY b vo vo' w w') : EvY b vo vo' w w'.drew := ⟨h.fr.drewr, h.own⟩
theorem EvY.drewN (h : EvY b vo vo' w w') (n : Nat) : EvY b vo vo' w (w'.drewN n) := ⟨h.fr.drewNr n, h.own⟩
theorem EvY.alloc (h : EvY b vo vo' w w') (o : Obj) : EvY b vo vo' w (w'.alloc o) := ⟨h.fr.allocr o, h.own⟩
theorem EvY.setOwn (h : EvY b vo vo' w w') (o : Nat) (v : Value) : EvY b vo vo' w (w'.setCell ⟨b, o, none⟩ v) := h.trans ⟨Fr.setCell _ _ _ _ (Or.inl rfl), fun _ _ h => h⟩
theorem EvY.setNew (h : EvY b vo vo' w w') (a : Addr) (v : Value) (hq : w.heap.size ≤ a.block) : EvY b vo vo' w (w'.setCell a v) := ⟨h.fr.setCellr a v (Or.inr hq), h.own⟩
theorem EvY.keeps (h : EvY b vo vo' w w') {k : Nat} {c : Array Value} {e : TypeId} (hq : Blk w k c e) (hn : ¬ OwnY b vo k) : Blk w' k c e ∧ ¬ OwnY b vo' k :=
  ⟨hq.fr h.fr hn, fun ho => hn (h.own k hq.lt ho)⟩
end

def bls (a : ByteArray) : List UInt8 := a.data.toList
theorem bls_len (a : ByteArray) : (bls a).length = a.size := rfl
theorem strCells_bls (a : ByteArray) : Go.Lib.strCells a = byV (bls a) := rfl

theorem pyC_setOut (ws : Ws) (p : Py) (vo v : Value) (o : List UInt8) (ho : PyOk p) : (pyC ws p vo).toArray.setIfInBounds 704 v = (pyC ws { p with out := o } v).toArray := by
  have h1 : (pyC ws p vo) = ([ws.v2, ws.v3] ++ (bV p.act ++ mmC p.mm)) ++ [vo] := by simp [pyC]
  have h2 : (pyC ws { p with out := o } v) = ([ws.v2, ws.v3] ++ (bV p.act ++ mmC p.mm)) ++ [v] := by simp [pyC]
  have hl : ([ws.v2, ws.v3] ++ (bV p.act ++ mmC p.mm)).length = 704 := by simp [bV_len, mmC_len p.mm ho.le, ho.la, ho.lm]
  apply Array.toList_inj.1
  rw [Array.toList_setIfInBounds, h1, h2]
  simp only [List.toList_toArray]
  rw [List.set_append_right _ _ (by omega), hl]
  simp

theorem PyV.roB {w : World} {b : Nat} {st : List StP} {ws : Ws} {p : Py} {vo : Value} (h : PyV w b st ws p vo) : ∀ k, vo.ownBlock = some k → b + 1 ≤ k ∧ k < w.heap.size := h.ro.lt

set_option maxRecDepth 100000 in
set_option maxHeartbeats 1000000 in
theorem put_any (w : World) (b : Nat) (st : List StP) (ws : Ws) (p : Py) (vo : Value) (a : ByteArray) (hp : PyV w b st ws p vo) (hb : p.out.length + a.size ≤ 70368744177664) :
    Calls Try.prog 71 #[.pointer (some ⟨b, 0, none⟩), .string a] w fun e w' => e = .returned (.tuple #[]) ∧ ∃ vo', PyV w' b st ws { p with out := p.out ++ bls a } vo' ∧ EvY b vo vo' w w' := by
  have co := hp.co
  have cz := hp.fz 704
  have hbl := Blk.lt hp.blk
  obtain ⟨va, vc, hvo⟩ := row_lenB hp.ro
  subst hvo
  go_enter Try.func71, Try.ntmps71
  go_wp2_with (at_builtin; go_must (refine wpList_appendS rfl _ _ _ _ rfl (b + 1) _ elemU8 zeroU8 Try.underlying9 _ p.out.length (byV p.out) rfl hp.ro a rfl hb (by omega) ?_); intro ra rc w2 hrow hgrow hold; have hG2 : Fr (fun j => (Value.slice va p.out.length vc).ownBlock = some j) w w2 := Fr.grown (fun j => (Value.slice va p.out.length vc).ownBlock = some j) hgrow (fun _ e => e); have hb2 := Blk.fr hp.blk hG2 (fun e => by have := (hp.roB b e).1; omega); have m2 : w2.cell? ⟨b, 704, none⟩ = some (.slice va p.out.length vc) := by { rw [Blk.cell hb2, ← Blk.cell hp.blk]; exact co }; have mz := Blk.frozen hb2 704)
  go_end0
  refine ⟨rfl, .slice ra (p.out.length + a.size) rc, ⟨?_, ?_, ?_, hp.np, ⟨hp.ok.la, hp.ok.lm, hp.ok.le⟩⟩, ⟨?_, ?_⟩⟩
  · rw [← pyC_setOut ws p (.slice va p.out.length vc) _ (p.out ++ bls a) hp.ok]
    exact Blk.set hb2 704 _
  · exact (hp.pl.fr hG2 (fun k hk e => by have := hp.np k hk; have := (hp.roB k e).1; omega)).fr (Fr.setCell (· = b) _ ⟨b, 704, none⟩ _ rfl) (fun k hk e => by have := hp.np k hk; omega)
  · have h1 := row_frB hrow (Fr.setCell (· = b) w2 ⟨b, 704, none⟩ (.slice ra (p.out.length + a.size) rc) rfl) (fun k hk e => by have := (hrow.lt k hk).1; omega)
    have h2 : (p.out ++ bls a).length = p.out.length + a.size := by simp [bls_len]
    show World.ownsRow _ _ _ _ _ (p.out ++ bls a).length (byV (p.out ++ bls a))
    rw [h2, byV, List.map_append]
    exact h1
  · exact (hG2.mono (fun k _ e => Or.inr e)).setCellr _ _ (Or.inl (Or.inl rfl))
  · intro k hk ho
    rcases ho with ho | ho
    · exact Or.inl ho
    · exact Or.inr (hold k hk ho)
end Go.Proofs.Ytmolmbeeoecnfaa
