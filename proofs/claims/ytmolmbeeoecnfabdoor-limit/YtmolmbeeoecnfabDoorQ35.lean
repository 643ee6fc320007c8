/- Own work: TR4. -/
import Derived.Test.YtmolmbeeoecnfabDoorQ33
/- Own work: walks of the program's table reader: readTable. -/
namespace Go.Proofs.YtmolmbeeoecnfabDoor
open Go.RowKit Go.BigFrame
set_option linter.unusedVariables false
set_option linter.unusedSimpArgs false

theorem elemRow : ElemOk Tryd.prog 53 92 4 56 where
  ht := Tryd.underlying53
  info := by
    obtain ⟨i, h0, h1, h2, h3⟩ := info_parts (show (Tryd.prog.info? 92).map (fun i => (i.zero, i.size, i.bytes)) = some (some (.agg #[.int .i64 0, .string ⟨#[]⟩, .int .i64 0, .slice none 0 0]), 4, 56) by kernel_rfl)
    exact ⟨i, _, h0, h1, h2, h3, rfl⟩
  pos := by decide
theorem RwH.plen (x : RwH) : x.pcells.length = 4 := rfl

def OwnT (v : Value) (th : List RwH) (k : Nat) : Prop := v.ownBlock = some k ∨ ∃ t ∈ th, t.cv.ownBlock = some k
/-- The program's rows in memory. -/
structure TbV (w : World) (v : Value) (th : List RwH) : Prop where
  r : w.ownsRow 0 92 4 v th.length (th.flatMap RwH.pcells)
  rc : ∀ t ∈ th, w.ownsRow 0 95 2 t.cv t.q.cells.length (t.q.cells.flatMap clQ)
  nc : ∀ t ∈ th, Ap t.cv v
theorem TbV.fr {S : Nat → Prop} {w w' : World} {v : Value} {th : List RwH} (h : TbV w v th) (f : Fr S w w') (hS : ∀ k, OwnT v th k → ¬ S k) : TbV w' v th where
  r := row_fr h.r f (fun k hk => hS k (Or.inl hk))
  rc := fun t ht => row_fr (h.rc t ht) f (fun k hk => hS k (Or.inr ⟨t, ht, hk⟩))
  nc := h.nc
theorem TbV.nil (w : World) : TbV w (.slice none 0 0) [] := ⟨World.ownsRow_nil w _ _ _, fun t ht => by simp at ht, fun t ht => by simp at ht⟩
theorem TbV.push {w w1 : World} {v : Value} {th : List RwH} {x : RwH} {g c : Nat} (h : TbV w v th) (hx : w.ownsRow 0 95 2 x.cv x.q.cells.length (x.q.cells.flatMap clQ)) (ha : Ap x.cv v)
    (hr : w1.ownsRow 0 92 4 (.slice (some ⟨g, 0, none⟩) (th.length + 1) c) (th.length + 1) (th.flatMap RwH.pcells ++ x.pcells))
    (hg : w.grownBy w1 v.ownBlock) (hgo : v.ownBlock = some g ∨ w.heap.size ≤ g) :
    TbV w1 (.slice (some ⟨g, 0, none⟩) (th.length + 1) c) (th ++ [x]) := by
  have f1 : Fr (fun j => v.ownBlock = some j) w w1 := Fr.grown _ hg (fun _ e => e)
  have key : ∀ t : RwH, w.ownsRow 0 95 2 t.cv t.q.cells.length (t.q.cells.flatMap clQ) → Ap t.cv v → w1.ownsRow 0 95 2 t.cv t.q.cells.length (t.q.cells.flatMap clQ) ∧ Ap t.cv (.slice (some ⟨g, 0, none⟩) (th.length + 1) c) := by
    intro t h1 h2
    refine ⟨row_fr h1 f1 (fun k hk e => h2 k hk e), fun k h3 h4 => ?_⟩
    simp only [Value.ownBlock, Option.some.injEq] at h4
    subst h4
    rcases hgo with e | e
    · exact h2 g h3 e
    · have := (h1.lt g h3).2; omega
  refine ⟨by simpa using hr, fun t ht => ?_, fun t ht => ?_⟩
  · rcases List.mem_append.1 ht with ht | ht
    · exact (key t (h.rc t ht) (h.nc t ht)).1
    · simp only [List.mem_cons, List.not_mem_nil, or_false] at ht; subst ht; exact (key t hx ha).1
  · rcases List.mem_append.1 ht with ht | ht
    · exact (key t (h.rc t ht) (h.nc t ht)).2
    · simp only [List.mem_cons, List.not_mem_nil, or_false] at ht; subst ht; exact (key t hx ha).2

theorem fr3 {S : Nat → Prop} {a w : World} (h : Fr S a w) (q : Nat) (hq : S q ∨ a.heap.size ≤ q) (v0 v1 v2 : Value) : Fr S a (((w.setCell ⟨q, 0, none⟩ v0).setCell ⟨q, 1, none⟩ v1).setCell ⟨q, 2, none⟩ v2) :=
  ((h.setCellr ⟨q, 0, none⟩ _ hq).setCellr ⟨q, 1, none⟩ _ hq).setCellr ⟨q, 2, none⟩ _ hq
theorem blk3 {w : World} {b : Nat} {c : Array Value} {e : TypeId} (h : Blk w b c e) (q : Nat) (hq : b ≠ q) (v0 v1 v2 : Value) : Blk (((w.setCell ⟨q, 0, none⟩ v0).setCell ⟨q, 1, none⟩ v1).setCell ⟨q, 2, none⟩ v2) b c e :=
  Blk.other (Blk.other (Blk.other h _ _ hq) _ _ hq) _ _ hq

def TtPost (s : ByteArray) (b : Nat) (w : World) (e : Ending) (w' : World) : Prop :=
  RdB w' b s (formP s).2.1 ∧ Fr (· = b) w w' ∧ ∃ ev bg va n vc, e = .returned (.tuple #[.agg #[.string ev, .string bg, .slice va n vc], .bool (formP s).1]) ∧
    ((formP s).1 = true → ev = (formP s).2.2.events ∧ bg = (formP s).2.2.begin_ ∧ ∃ th, TbV w' (.slice va n vc) th ∧ n = th.length ∧ th.map RwH.q = (formP s).2.2.rows.take 100 ∧ ∀ k, OwnT (.slice va n vc) th k → w.heap.size ≤ k)

set_option maxRecDepth 100000 in
set_option maxHeartbeats 1000000 in
theorem readTable_any (w : World) (b : Nat) (s : ByteArray) (hp : RdB w b s 0) (hs : s.size ≤ 1000000) :
    Calls Tryd.prog 32 #[.pointer (some ⟨b, 0, none⟩)] w (TtPost s b w) := by
  have hbl := Blk.lt hp
  have hQ := Blk.alloc (Blk.new w #[.string ⟨#[]⟩, .string ⟨#[]⟩, .slice none 0 0] 55) (.cells #[.string ⟨#[]⟩, .string ⟨#[]⟩, .slice none 0 0] 55)
  have hT := Blk.new' (w.alloc (.cells #[.string ⟨#[]⟩, .string ⟨#[]⟩, .slice none 0 0] 55)) #[.string ⟨#[]⟩, .string ⟨#[]⟩, .slice none 0 0] 55 (w.heap.size + 1) (by simp)
  have hpa : RdB ((w.alloc (.cells #[.string ⟨#[]⟩, .string ⟨#[]⟩, .slice none 0 0] 55)).alloc (.cells #[.string ⟨#[]⟩, .string ⟨#[]⟩, .slice none 0 0] 55)) b s 0 := Blk.alloc (Blk.alloc hp _) _
  have hfa : Fr (· = b) w ((w.alloc (.cells #[.string ⟨#[]⟩, .string ⟨#[]⟩, .slice none 0 0] 55)).alloc (.cells #[.string ⟨#[]⟩, .string ⟨#[]⟩, .slice none 0 0] 55)) := ((Fr.refl _ _).allocr _).allocr _
  go_enter Tryd.func32, Tryd.ntmps32
  go_wp2_with fail
  generalize ((w.alloc (.cells #[.string ⟨#[]⟩, .string ⟨#[]⟩, .slice none 0 0] 55)).alloc (.cells #[.string ⟨#[]⟩, .string ⟨#[]⟩, .slice none 0 0] 55)) = W at hQ hT hpa hfa ⊢
  clear hp
  refine (readRising_any _ b s 0 hpa hs (Nat.zero_le _)).mono ?_
  rintro e w1 ⟨rfl, hp1, hf1⟩
  have hb1 : tev s ≤ s.size := (evE_bd s 0 0 (Nat.zero_le _)).2
  have hev : (cut s 0 (tev s)).size = tev s := by rw [cut_size s 0 _ (Nat.zero_le _) hb1]; omega
  change RdB w1 b s (tev s) at hp1
  rw [show evE s 0 0 = tev s from rfl]
  have hQ1 := Blk.fr hQ hf1 (by omega)
  have hT1 := Blk.fr hT hf1 (by omega)
  have hfr1 := hfa.thenr hf1 (fun _ _ h => h)
  clear hQ hT hpa hfa hf1
  have t0 : w1.cell? ⟨w.heap.size + 1, 0, none⟩ = some (.string ⟨#[]⟩) := by rw [Blk.cell hT1]; rfl
  have z0 := Blk.frozen hT1 0
  go_wp2_with fail
  have hp2 := Blk.other hp1 ⟨w.heap.size + 1, 0, none⟩ (.string (cut s 0 (tev s))) (by show b ≠ w.heap.size + 1; omega)
  have hQ2 := Blk.other hQ1 ⟨w.heap.size + 1, 0, none⟩ (.string (cut s 0 (tev s))) (by show w.heap.size ≠ w.heap.size + 1; omega)
  have hT2 : Blk (w1.setCell ⟨w.heap.size + 1, 0, none⟩ (.string (cut s 0 (tev s)))) (w.heap.size + 1) #[.string (cut s 0 (tev s)), .string ⟨#[]⟩, .slice none 0 0] 55 := Blk.set hT1 0 _
  have hfr2 := hfr1.setCellr ⟨w.heap.size + 1, 0, none⟩ (.string (cut s 0 (tev s))) (Or.inr (by show w.heap.size ≤ w.heap.size + 1; omega))
  generalize w1.setCell ⟨w.heap.size + 1, 0, none⟩ (.string (cut s 0 (tev s))) = W2 at hp2 hQ2 hT2 hfr2 ⊢
  clear hp1 hQ1 hT1 hfr1 t0 z0
  by_cases h59 : byte s (tev s) = 59
  · have H59 : Hid (byte s (tev s) = 59) := h59
    have hin := sg_in s 59 _ (by decide) h59
    clear h59
    refine (skip_yes _ b s 59 _ rfl _ hp2 hs (by decide) H59.out).mono ?_
    rintro e w3 ⟨rfl, hp3, hf3⟩
    have hQ3 := Blk.fr hQ2 hf3 (by omega)
    have hT3 := Blk.fr hT2 hf3 (by omega)
    have hfr3 := hfr2.thenr hf3 (fun _ _ h => h)
    clear hp2 hQ2 hT2 hfr2 hf3
    go_wp2_with fail
    refine (readActions_any _ b s _ hp3 hs hin).mono ?_
    rintro e w4 ⟨rfl, hp4, hf4⟩
    have hb2 : tev s + 1 ≤ tbg s ∧ tbg s ≤ s.size := ⟨dend_ge s _, dend_le s _ hin⟩
    change RdB w4 b s (tbg s) at hp4
    rw [show dend s (tev s + 1) = tbg s from rfl]
    have hQ4 := Blk.fr hQ3 hf4 (by omega)
    have hT4 := Blk.fr hT3 hf4 (by omega)
    have hfr4 := hfr3.thenr hf4 (fun _ _ h => h)
    clear hp3 hQ3 hT3 hfr3 hf4
    have t1 : w4.cell? ⟨w.heap.size + 1, 1, none⟩ = some (.string ⟨#[]⟩) := by rw [Blk.cell hT4]; rfl
    have z1 := Blk.frozen hT4 1
    go_wp2_with fail
    have hp5 := Blk.other hp4 ⟨w.heap.size + 1, 1, none⟩ (.string (cut s (tev s + 1) (tbg s))) (by show b ≠ w.heap.size + 1; omega)
    have hQ5 := Blk.other hQ4 ⟨w.heap.size + 1, 1, none⟩ (.string (cut s (tev s + 1) (tbg s))) (by show w.heap.size ≠ w.heap.size + 1; omega)
    have hT5 : Blk (w4.setCell ⟨w.heap.size + 1, 1, none⟩ (.string (cut s (tev s + 1) (tbg s)))) (w.heap.size + 1) #[.string (cut s 0 (tev s)), .string (cut s (tev s + 1) (tbg s)), .slice none 0 0] 55 := Blk.set hT4 1 _
    have hfr5 := hfr4.setCellr ⟨w.heap.size + 1, 1, none⟩ (.string (cut s (tev s + 1) (tbg s))) (Or.inr (by show w.heap.size ≤ w.heap.size + 1; omega))
    generalize w4.setCell ⟨w.heap.size + 1, 1, none⟩ (.string (cut s (tev s + 1) (tbg s))) = W5 at hp5 hQ5 hT5 hfr5 ⊢
    clear hp4 hQ4 hT4 hfr4 t1 z1
    by_cases h59' : byte s (tbg s) = 59
    · have H59' : Hid (byte s (tbg s) = 59) := h59'
      have hin2 := sg_in s 59 _ (by decide) h59'
      have HF : Hid (formP s = ((rwL s (tev s) (tbg s + 1) []).1, (rwL s (tev s) (tbg s + 1) []).2.1, ⟨cut s 0 (tev s), cut s (tev s + 1) (tbg s), (rwL s (tev s) (tbg s + 1) []).2.2⟩)) := by
        show _ = _; unfold formP; simp only; rw [if_neg (fun h => h H59.out), if_neg (fun h => h h59')]
      clear h59'
      refine (skip_yes _ b s 59 _ rfl _ hp5 hs (by decide) H59'.out).mono ?_
      rintro e w6 ⟨rfl, hp6, hf6⟩
      have hQ6 := Blk.fr hQ5 hf6 (by omega)
      have hT6 := Blk.fr hT5 hf6 (by omega)
      have hfr6 := hfr5.thenr hf6 (fun _ _ h => h)
      have hsz6 := Blk.lt hT6
      clear hp5 hQ5 hT5 hfr5 hf6
      go_wp2_with fail
      generalize hevv : cut s 0 (tev s) = ev at *
      generalize hbgv : cut s (tev s + 1) (tbg s) = bg at *
      have HEV : Hid (ev.size = tev s) := hev
      have HEW : Hid (cut s 0 (tev s) = ev ∧ cut s (tev s + 1) (tbg s) = bg) := ⟨hevv, hbgv⟩
      have hevs : ev.size ≤ s.size := by omega
      clear hevv hbgv hev
      go_loopg [5] (s.size + 1 - (tbg s + 1)) (fun gk vm wr => ∃ (k : Nat) (a : List Rw) (th : List RwH) (v : Value) (more : Bool), vm = .bool more ∧ RdB wr b s k ∧ k ≤ s.size ∧ a.length ≤ k ∧ th.map RwH.q = a.take 100 ∧ Blk wr (w.heap.size + 1) #[.string ev, .string bg, v] 55 ∧ Blk wr w.heap.size #[.string ⟨#[]⟩, .string ⟨#[]⟩, .slice none 0 0] 55 ∧ TbV wr v th ∧ (∀ j, OwnT v th j → w.heap.size + 2 ≤ j) ∧ Fr (· = b) w wr ∧ Hid (rwL s ev.size (tbg s + 1) [] = if more then rwL s ev.size k a else (true, k, a)) ∧ s.size + 1 - k ≤ gk)
      case atStart => exact ⟨tbg s + 1, [], [], .slice none 0 0, true, rfl, hp6, hin2, Nat.zero_le _, rfl, hT6, hQ6, TbV.nil _, (by rintro j (h | ⟨t, ht, _⟩); simp [Value.ownBlock] at h; simp at ht), hfr6, rfl, Nat.le_refl _⟩
      case round =>
        clear hp6 hQ6 hT6 hfr6 hsz6
        obtain ⟨k, a, th, v, more, rfl, hpk, hk, hak, hth, hT, hQ, hV, hlo, hfr, HR, hgk⟩ := hrel
        obtain ⟨va, vc, hv⟩ := row_len hV.r
        subst hv
        have HLEN : Hid (th.length = min 100 a.length) := by show _ = _; have := congrArg List.length hth; simpa using this
        have hl1 : th.length ≤ 100 := by have := HLEN.out; omega
        have hTl := Blk.lt hT
        have t0 : wr.cell? ⟨w.heap.size + 1, 0, none⟩ = some (.string ev) := by rw [Blk.cell hT]; rfl
        have t1 : wr.cell? ⟨w.heap.size + 1, 1, none⟩ = some (.string bg) := by rw [Blk.cell hT]; rfl
        have t2 : wr.cell? ⟨w.heap.size + 1, 2, none⟩ = some (.slice va th.length vc) := by rw [Blk.cell hT]; rfl
        by_cases hm : more = true
        · subst hm
          have HR1 : Hid (rwL s ev.size (tbg s + 1) [] = rwL s ev.size k a) := HR.out
          clear HR
          go_wp2_with fail
          refine (readRow_any _ b s k ev.size hpk hs hk hevs).mono ?_
          rintro e w2 ⟨hyes, hno, hp2, hf2⟩
          have hbd := rowP_bd s ev.size k hk
          have hT2 := Blk.fr hT hf2 (by omega)
          have hQ2 := Blk.fr hQ hf2 (by omega)
          have hV2 := hV.fr hf2 (fun j hj e => by have := hlo j hj; omega)
          have hfr2 := hfr.thenr hf2 (fun _ _ h => h)
          have hVr := hV.r
          clear hpk hT hQ hV t0 t1 t2
          have t0 : w2.cell? ⟨w.heap.size + 1, 0, none⟩ = some (.string ev) := by rw [Blk.cell hT2]; rfl
          have t1 : w2.cell? ⟨w.heap.size + 1, 1, none⟩ = some (.string bg) := by rw [Blk.cell hT2]; rfl
          have t2 : w2.cell? ⟨w.heap.size + 1, 2, none⟩ = some (.slice va th.length vc) := by rw [Blk.cell hT2]; rfl
          have hlt2 := Blk.lt hT2
          have hbl2 := Blk.lt hp2
          have hsz2 := hf2.size
          by_cases hok : (rowP s ev.size k).1 = true
          · obtain ⟨cv, he, hrowc, hloc⟩ := hyes hok
            have hlt := hbd.2.2 hok
            have hlocc : ∀ j, cv.ownBlock = some j → w.heap.size + 2 ≤ j := fun j hj => by have := hloc j hj; omega
            have hap : Ap cv (.slice va th.length vc) := fun j h1 h2 => by have := hloc j h1; have := (hVr.lt j h2).2; omega
            have HOK : Hid ((rowP s ev.size k).1 = true) := hok
            have he' : e = .returned (.tuple #[.agg #[.int .i64 (rowP s ev.size k).2.2.at_, .string (rowP s ev.size k).2.2.text, .int .i64 (smQ (rowP s ev.size k).2.2.same), cv], .bool true]) := he
            clear he
            subst he'
            clear hyes hno hok
            generalize hrx : (rowP s ev.size k).2.2 = rx at *
            generalize hjx : (rowP s ev.size k).2.1 = jx at *
            have HRX : Hid ((rowP s ev.size k).2.2 = rx ∧ (rowP s ev.size k).2.1 = jx) := ⟨hrx, hjx⟩
            clear hrx hjx
            obtain ⟨c0, c1, -⟩ := hp2.cells
            obtain ⟨ca, cc, hcv⟩ := row_len hrowc
            subst hcv
            by_cases h99 : (th.length : Int) ≤ 99
            · by_cases hmo : (jx : Int) < s.size
              · have HR2 : Hid (rwL s ev.size (tbg s + 1) [] = rwL s ev.size jx (a ++ [rx])) := by
                  show _ = _; rw [HR1.out, rwL_go s ev.size k a hk HOK.out (by rw [HRX.out.2]; omega), HRX.out.1, HRX.out.2]
                go_wp2_with (at_builtin; go_must (refine wpList_append1 rfl _ _ _ rfl _ 4 56 elemRow _ th.length (th.flatMap RwH.pcells) rfl (by exact (hV2.r.alloc _).alloc _) ⟨w2.heap.size + 1, 0, none⟩ 1 (RwH.pcells ⟨rx, .slice ca rx.cells.length cc⟩) rfl rfl (by exact cells_new (Blk.new' _ _ _ _ (by simp))) (by intro u hu; simp [RwH.pcells] at hu; rcases hu with rfl | rfl | rfl | rfl <;> rfl) (by unfold maxLen; omega) (by omega) ?_); intro g cap w3 hrow3 hgrow hgo; have hG3 : Fr (fun j => (Value.slice va th.length vc).ownBlock = some j) _ w3 := Fr.grown (fun j => (Value.slice va th.length vc).ownBlock = some j) hgrow (fun _ e => e); have hp3 : RdB w3 b s jx := Blk.fr (Blk.alloc (Blk.alloc hp2 _) _) hG3 (fun e => by have := hlo b (Or.inl e); omega); have hT3 := Blk.fr (Blk.alloc (Blk.alloc hT2 _) _) hG3 (fun e => by have := hlo _ (Or.inl e); omega); have hQ3 := Blk.fr (Blk.alloc (Blk.alloc hQ2 _) _) hG3 (fun e => by have := hlo _ (Or.inl e); omega); have m2 : w3.cell? ⟨w.heap.size + 1, 2, none⟩ = some (.slice va th.length vc) := by { rw [Blk.cell hT3]; rfl }; have mz := Blk.frozen hT3 2; have d0 : w3.cell? ⟨b, 0, none⟩ = some (.string s) := hp3.cells.1; have d1 : w3.cell? ⟨b, 1, none⟩ = some (.int .i64 jx) := hp3.cells.2.1)
                go_big_quiet (fail)
                go_wp2_with fail
                have hlo3 : ∀ j, OwnT (.slice (some ⟨g, 0, none⟩) (th.length + 1) cap) (th ++ [⟨rx, .slice ca rx.cells.length cc⟩]) j → w.heap.size + 2 ≤ j := by
                  rintro j (h | ⟨t, ht, h⟩)
                  · simp only [Value.ownBlock, Option.some.injEq] at h; subst h
                    rcases hgo with e | e
                    · exact hlo g (Or.inl e)
                    · simp at e; omega
                  · rcases List.mem_append.1 ht with ht | ht
                    · exact hlo j (Or.inr ⟨t, ht, h⟩)
                    · simp only [List.mem_cons, List.not_mem_nil, or_false] at ht; subst ht; exact hlocc j h
                have hV3 := TbV.push (x := ⟨rx, .slice ca rx.cells.length cc⟩) ((hV2.fr (Fr.alloc (fun _ => False) _ _) (fun _ _ h => h)).fr (Fr.alloc (fun _ => False) _ _) (fun _ _ h => h)) ((hrowc.alloc _).alloc _) hap hrow3 hgrow hgo
                have hfr3 : Fr (· = b) w w3 := ((hfr2.allocr _).allocr _).thenr hG3 (fun j hj e => by have := hlo j (Or.inl e); omega)
                go_roundg (s.size + 1 - jx)
                case measure => omega
                case rel =>
                  have hlen := HLEN.out
                  refine ⟨jx, a ++ [rx], th ++ [⟨rx, .slice ca rx.cells.length cc⟩], .slice (some ⟨g, 0, none⟩) (th.length + 1) cap, true, rfl, Blk.drewN (Blk.other hp3 _ _ (by show b ≠ w.heap.size + 1; omega)) _, by omega, by simp; omega, ?_, Blk.drewN (Blk.set hT3 2 _) _, Blk.drewN (Blk.other hQ3 _ _ (by show w.heap.size ≠ w.heap.size + 1; omega)) _, ?_, hlo3, (hfr3.setCellr _ _ (Or.inr (by show w.heap.size ≤ w.heap.size + 1; omega))).drewNr _, HR2, Nat.le_refl _⟩
                  · rw [List.map_append, hth, List.take_append, List.take_of_length_le (l := [rx]) (by simp; omega)]; rfl
                  · exact (hV3.fr (S := fun x => x = w.heap.size + 1) (Fr.setCell _ _ _ _ rfl) (fun j hj e => by have := hlo3 j hj; omega)).fr (Fr.drewN (fun _ => False) _ _) (fun _ _ h => h)
              · have HR2 : Hid (rwL s ev.size (tbg s + 1) [] = (true, jx, a ++ [rx])) := by
                  show _ = _; rw [HR1.out, rwL_end s ev.size k a hk HOK.out (by rw [HRX.out.2]; omega), HRX.out.1, HRX.out.2]
                have hmo' : decide (jx < s.size) = false := by simp; omega
                go_wp2_with (at_builtin; go_must (refine wpList_append1 rfl _ _ _ rfl _ 4 56 elemRow _ th.length (th.flatMap RwH.pcells) rfl (by exact (hV2.r.alloc _).alloc _) ⟨w2.heap.size + 1, 0, none⟩ 1 (RwH.pcells ⟨rx, .slice ca rx.cells.length cc⟩) rfl rfl (by exact cells_new (Blk.new' _ _ _ _ (by simp))) (by intro u hu; simp [RwH.pcells] at hu; rcases hu with rfl | rfl | rfl | rfl <;> rfl) (by unfold maxLen; omega) (by omega) ?_); intro g cap w3 hrow3 hgrow hgo; have hG3 : Fr (fun j => (Value.slice va th.length vc).ownBlock = some j) _ w3 := Fr.grown (fun j => (Value.slice va th.length vc).ownBlock = some j) hgrow (fun _ e => e); have hp3 : RdB w3 b s jx := Blk.fr (Blk.alloc (Blk.alloc hp2 _) _) hG3 (fun e => by have := hlo b (Or.inl e); omega); have hT3 := Blk.fr (Blk.alloc (Blk.alloc hT2 _) _) hG3 (fun e => by have := hlo _ (Or.inl e); omega); have hQ3 := Blk.fr (Blk.alloc (Blk.alloc hQ2 _) _) hG3 (fun e => by have := hlo _ (Or.inl e); omega); have m2 : w3.cell? ⟨w.heap.size + 1, 2, none⟩ = some (.slice va th.length vc) := by { rw [Blk.cell hT3]; rfl }; have mz := Blk.frozen hT3 2; have d0 : w3.cell? ⟨b, 0, none⟩ = some (.string s) := hp3.cells.1; have d1 : w3.cell? ⟨b, 1, none⟩ = some (.int .i64 jx) := hp3.cells.2.1)
                go_big_quiet (fail)
                go_wp2_with fail
                have hlo3 : ∀ j, OwnT (.slice (some ⟨g, 0, none⟩) (th.length + 1) cap) (th ++ [⟨rx, .slice ca rx.cells.length cc⟩]) j → w.heap.size + 2 ≤ j := by
                  rintro j (h | ⟨t, ht, h⟩)
                  · simp only [Value.ownBlock, Option.some.injEq] at h; subst h
                    rcases hgo with e | e
                    · exact hlo g (Or.inl e)
                    · simp at e; omega
                  · rcases List.mem_append.1 ht with ht | ht
                    · exact hlo j (Or.inr ⟨t, ht, h⟩)
                    · simp only [List.mem_cons, List.not_mem_nil, or_false] at ht; subst ht; exact hlocc j h
                have hV3 := TbV.push (x := ⟨rx, .slice ca rx.cells.length cc⟩) ((hV2.fr (Fr.alloc (fun _ => False) _ _) (fun _ _ h => h)).fr (Fr.alloc (fun _ => False) _ _) (fun _ _ h => h)) ((hrowc.alloc _).alloc _) hap hrow3 hgrow hgo
                have hfr3 : Fr (· = b) w w3 := ((hfr2.allocr _).allocr _).thenr hG3 (fun j hj e => by have := hlo j (Or.inl e); omega)
                go_roundg (s.size + 1 - jx)
                case measure => omega
                case rel =>
                  have hlen := HLEN.out
                  refine ⟨jx, a ++ [rx], th ++ [⟨rx, .slice ca rx.cells.length cc⟩], .slice (some ⟨g, 0, none⟩) (th.length + 1) cap, false, rfl, Blk.drewN (Blk.other hp3 _ _ (by show b ≠ w.heap.size + 1; omega)) _, by omega, by simp; omega, ?_, Blk.drewN (Blk.set hT3 2 _) _, Blk.drewN (Blk.other hQ3 _ _ (by show w.heap.size ≠ w.heap.size + 1; omega)) _, ?_, hlo3, (hfr3.setCellr _ _ (Or.inr (by show w.heap.size ≤ w.heap.size + 1; omega))).drewNr _, HR2, Nat.le_refl _⟩
                  · rw [List.map_append, hth, List.take_append, List.take_of_length_le (l := [rx]) (by simp; omega)]; rfl
                  · exact (hV3.fr (S := fun x => x = w.heap.size + 1) (Fr.setCell _ _ _ _ rfl) (fun j hj e => by have := hlo3 j hj; omega)).fr (Fr.drewN (fun _ => False) _ _) (fun _ _ h => h)
            · have h99' : decide (th.length ≤ 99) = false := by simp; omega
              by_cases hmo : (jx : Int) < s.size
              · have HR2 : Hid (rwL s ev.size (tbg s + 1) [] = rwL s ev.size jx (a ++ [rx])) := by
                  show _ = _; rw [HR1.out, rwL_go s ev.size k a hk HOK.out (by rw [HRX.out.2]; omega), HRX.out.1, HRX.out.2]
                go_wp2_with fail
                go_big_quiet (fail)
                go_wp2_with fail
                go_roundg (s.size + 1 - jx)
                case measure => omega
                case rel =>
                  have hlen := HLEN.out
                  refine ⟨jx, a ++ [rx], th, .slice va th.length vc, true, rfl, Blk.drewN (Blk.alloc hp2 _) _, by omega, by simp; omega, ?_, Blk.drewN (Blk.alloc hT2 _) _, Blk.drewN (Blk.alloc hQ2 _) _, ?_, hlo, (hfr2.allocr _).drewNr _, HR2, Nat.le_refl _⟩
                  · rw [hth, List.take_append_of_le_length (by omega)]
                  · exact (hV2.fr (Fr.alloc (fun _ => False) _ _) (fun _ _ h => h)).fr (Fr.drewN (fun _ => False) _ _) (fun _ _ h => h)
              · have HR2 : Hid (rwL s ev.size (tbg s + 1) [] = (true, jx, a ++ [rx])) := by
                  show _ = _; rw [HR1.out, rwL_end s ev.size k a hk HOK.out (by rw [HRX.out.2]; omega), HRX.out.1, HRX.out.2]
                have hmo' : decide (jx < s.size) = false := by simp; omega
                go_wp2_with fail
                go_big_quiet (fail)
                go_wp2_with fail
                go_roundg (s.size + 1 - jx)
                case measure => omega
                case rel =>
                  have hlen := HLEN.out
                  refine ⟨jx, a ++ [rx], th, .slice va th.length vc, false, rfl, Blk.drewN (Blk.alloc hp2 _) _, by omega, by simp; omega, ?_, Blk.drewN (Blk.alloc hT2 _) _, Blk.drewN (Blk.alloc hQ2 _) _, ?_, hlo, (hfr2.allocr _).drewNr _, HR2, Nat.le_refl _⟩
                  · rw [hth, List.take_append_of_le_length (by omega)]
                  · exact (hV2.fr (Fr.alloc (fun _ => False) _ _) (fun _ _ h => h)).fr (Fr.drewN (fun _ => False) _ _) (fun _ _ h => h)
          · have hok' : (rowP s ev.size k).1 = false := by simpa using hok
            have HE : Hid (formP s = (false, (rowP s ev.size k).2.1, ⟨ev, bg, a⟩)) := by
              show _ = _; rw [HF.out, ← HEV.out, HR1.out, rwL_bad s ev.size k a hk hok']
            have he := hno hok'
            subst he
            clear hyes hno hok hok'
            have hql2 : w.heap.size < w2.heap.size := by omega
            have hqn2 : w.heap.size ≠ w2.heap.size := by omega
            have q0 : w2.cell? ⟨w.heap.size, 0, none⟩ = some (.string ⟨#[]⟩) := by rw [Blk.cell hQ2]; rfl
            have q1 : w2.cell? ⟨w.heap.size, 1, none⟩ = some (.string ⟨#[]⟩) := by rw [Blk.cell hQ2]; rfl
            have q2 : w2.cell? ⟨w.heap.size, 2, none⟩ = some (.slice none 0 0) := by rw [Blk.cell hQ2]; rfl
            have y0 := Blk.frozen hQ2 0
            have y1 := Blk.frozen hQ2 1
            have y2 := Blk.frozen hQ2 2
            go_wp2_with fail
            refine bodyPost_ret (v := .tuple #[.agg #[.string ev, .string bg, .slice va th.length vc], .bool false]) (by simp [results, Tryd.results32, go_sem, hql2, q0, q1, q2]) rfl ⟨?_, ?_, ?_⟩
            · rw [HE.out]; exact Blk.alloc (blk3 hp2 _ (by omega) _ _ _) _
            · exact (fr3 hfr2 _ (Or.inr (Nat.le_refl _)) _ _ _).allocr _
            · refine ⟨_, _, _, _, _, by rw [HE.out], fun h => ?_⟩
              rw [HE.out] at h; cases h
        · have hm' : more = false := by simpa using hm
          subst hm'
          have HE : Hid (formP s = (true, k, ⟨ev, bg, a⟩)) := by
            show _ = _; rw [HF.out, ← HEV.out, HR.out]; rfl
          clear hm
          have q0 : wr.cell? ⟨w.heap.size, 0, none⟩ = some (.string ⟨#[]⟩) := by rw [Blk.cell hQ]; rfl
          have q1 : wr.cell? ⟨w.heap.size, 1, none⟩ = some (.string ⟨#[]⟩) := by rw [Blk.cell hQ]; rfl
          have q2 : wr.cell? ⟨w.heap.size, 2, none⟩ = some (.slice none 0 0) := by rw [Blk.cell hQ]; rfl
          have y0 := Blk.frozen hQ 0
          have y1 := Blk.frozen hQ 1
          have y2 := Blk.frozen hQ 2
          go_wp2_with fail
          refine bodyPost_ret (v := .tuple #[.agg #[.string ev, .string bg, .slice va th.length vc], .bool true]) (by simp [results, Tryd.results32, go_sem, q0, q1, q2]) rfl ⟨?_, ?_, ?_⟩
          · rw [HE.out]; exact blk3 hpk _ (by omega) _ _ _
          · exact fr3 hfr _ (Or.inr (Nat.le_refl _)) _ _ _
          · refine ⟨_, _, _, _, _, by rw [HE.out], fun _ => ⟨by rw [HE.out], by rw [HE.out], th, ?_, rfl, by rw [HE.out]; exact hth, fun j hj => by have := hlo j hj; omega⟩⟩
            exact hV.fr (fr3 (S := fun x => x = w.heap.size) (Fr.refl _ _) w.heap.size (Or.inl rfl) _ _ _) (fun j hj e => by have := hlo j hj; omega)
    · have HE : Hid (formP s = (false, tbg s, ⟨⟨#[]⟩, ⟨#[]⟩, []⟩)) := by
        show _ = _; unfold formP; simp only; rw [if_neg (fun h => h H59.out), if_pos h59']
      have H59' : Hid (byte s (tbg s) ≠ 59) := h59'
      clear h59'
      refine (skip_no _ b s 59 _ rfl _ hp5 H59'.out).mono ?_
      rintro e w6 ⟨rfl, hp6, hf6⟩
      have hQ6 := Blk.fr hQ5 hf6 (by omega)
      have hT6 := Blk.fr hT5 hf6 (by omega)
      have hfr6 := hfr5.thenr hf6 (fun _ _ h => h)
      have t0 : w6.cell? ⟨w.heap.size + 1, 0, none⟩ = some (.string (cut s 0 (tev s))) := by rw [Blk.cell hT6]; rfl
      have t1 : w6.cell? ⟨w.heap.size + 1, 1, none⟩ = some (.string (cut s (tev s + 1) (tbg s))) := by rw [Blk.cell hT6]; rfl
      have t2 : w6.cell? ⟨w.heap.size + 1, 2, none⟩ = some (.slice none 0 0) := by rw [Blk.cell hT6]; rfl
      have q0 : w6.cell? ⟨w.heap.size, 0, none⟩ = some (.string ⟨#[]⟩) := by rw [Blk.cell hQ6]; rfl
      have q1 : w6.cell? ⟨w.heap.size, 1, none⟩ = some (.string ⟨#[]⟩) := by rw [Blk.cell hQ6]; rfl
      have q2 : w6.cell? ⟨w.heap.size, 2, none⟩ = some (.slice none 0 0) := by rw [Blk.cell hQ6]; rfl
      have y0 := Blk.frozen hQ6 0
      have y1 := Blk.frozen hQ6 1
      have y2 := Blk.frozen hQ6 2
      go_wp2_with fail
      refine bodyPost_ret (v := .tuple #[.agg #[.string (cut s 0 (tev s)), .string (cut s (tev s + 1) (tbg s)), .slice none 0 0], .bool false]) (by simp [results, Tryd.results32, go_sem, q0, q1, q2]) rfl ⟨?_, ?_, ?_⟩
      · rw [HE.out]; exact blk3 hp6 _ (by omega) _ _ _
      · exact fr3 hfr6 _ (Or.inr (Nat.le_refl _)) _ _ _
      · refine ⟨_, _, _, _, _, by rw [HE.out], fun h => ?_⟩
        rw [HE.out] at h; cases h
  · have HE : Hid (formP s = (false, tev s, ⟨⟨#[]⟩, ⟨#[]⟩, []⟩)) := by
      show _ = _; unfold formP; simp only; rw [if_pos h59]
    have H59 : Hid (byte s (tev s) ≠ 59) := h59
    clear h59
    refine (skip_no _ b s 59 _ rfl _ hp2 H59.out).mono ?_
    rintro e w3 ⟨rfl, hp3, hf3⟩
    have hQ3 := Blk.fr hQ2 hf3 (by omega)
    have hT3 := Blk.fr hT2 hf3 (by omega)
    have hfr3 := hfr2.thenr hf3 (fun _ _ h => h)
    have t0 : w3.cell? ⟨w.heap.size + 1, 0, none⟩ = some (.string (cut s 0 (tev s))) := by rw [Blk.cell hT3]; rfl
    have t1 : w3.cell? ⟨w.heap.size + 1, 1, none⟩ = some (.string ⟨#[]⟩) := by rw [Blk.cell hT3]; rfl
    have t2 : w3.cell? ⟨w.heap.size + 1, 2, none⟩ = some (.slice none 0 0) := by rw [Blk.cell hT3]; rfl
    have q0 : w3.cell? ⟨w.heap.size, 0, none⟩ = some (.string ⟨#[]⟩) := by rw [Blk.cell hQ3]; rfl
    have q1 : w3.cell? ⟨w.heap.size, 1, none⟩ = some (.string ⟨#[]⟩) := by rw [Blk.cell hQ3]; rfl
    have q2 : w3.cell? ⟨w.heap.size, 2, none⟩ = some (.slice none 0 0) := by rw [Blk.cell hQ3]; rfl
    have y0 := Blk.frozen hQ3 0
    have y1 := Blk.frozen hQ3 1
    have y2 := Blk.frozen hQ3 2
    go_wp2_with fail
    refine bodyPost_ret (v := .tuple #[.agg #[.string (cut s 0 (tev s)), .string ⟨#[]⟩, .slice none 0 0], .bool false]) (by simp [results, Tryd.results32, go_sem, q0, q1, q2]) rfl ⟨?_, ?_, ?_⟩
    · rw [HE.out]; exact blk3 hp3 _ (by omega) _ _ _
    · exact fr3 hfr3 _ (Or.inr (Nat.le_refl _)) _ _ _
    · refine ⟨_, _, _, _, _, by rw [HE.out], fun h => ?_⟩
      rw [HE.out] at h; cases h
end Go.Proofs.YtmolmbeeoecnfabDoor
