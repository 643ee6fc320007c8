/- Own work: TR3, TD2. -/
import Derived.Test.YtmolmbeeoecnfabDoorQ32
import Derived.Test.YtmolmbeeoecnfabDoorQ31
/- Own work: walks of the program's table reader: readRow. -/
namespace Go.Proofs.YtmolmbeeoecnfabDoor
open Go.RowKit Go.BigFrame
set_option linter.unusedVariables false
set_option linter.unusedSimpArgs false

def smQ (x : Int) : Int := if x < 0 then -1 else min x 99
/-- A row in memory. -/
structure RwH where
  q : Rw
  cv : Value
def RwH.pcells (x : RwH) : List Value := [.int .i64 x.q.at_, .string x.q.text, .int .i64 (smQ x.q.same), x.cv]

def RwPost (s : ByteArray) (b i wd : Nat) (w : World) (e : Ending) (w' : World) : Prop :=
  ((rowP s wd i).1 = true → ∃ cv, e = .returned (.tuple #[.agg (RwH.pcells ⟨(rowP s wd i).2.2, cv⟩).toArray, .bool true]) ∧ w'.ownsRow 0 95 2 cv (rowP s wd i).2.2.cells.length ((rowP s wd i).2.2.cells.flatMap clQ) ∧ (∀ k, cv.ownBlock = some k → w.heap.size ≤ k)) ∧
  ((rowP s wd i).1 = false → e = .returned (.tuple #[.agg #[.int .i64 0, .string ⟨#[]⟩, .int .i64 0, .slice none 0 0], .bool false])) ∧
  RdB w' b s (rowP s wd i).2.1 ∧ Fr (· = b) w w'

theorem fr4 {S : Nat → Prop} {a w : World} (h : Fr S a w) (q : Nat) (hq : S q ∨ a.heap.size ≤ q) (v0 v1 v2 v3 : Value) : Fr S a ((((w.setCell ⟨q, 0, none⟩ v0).setCell ⟨q, 1, none⟩ v1).setCell ⟨q, 2, none⟩ v2).setCell ⟨q, 3, none⟩ v3) :=
  (((h.setCellr ⟨q, 0, none⟩ _ hq).setCellr ⟨q, 1, none⟩ _ hq).setCellr ⟨q, 2, none⟩ _ hq).setCellr ⟨q, 3, none⟩ _ hq
theorem blk4 {w : World} {b : Nat} {c : Array Value} {e : TypeId} (h : Blk w b c e) (q : Nat) (hq : b ≠ q) (v0 v1 v2 v3 : Value) : Blk ((((w.setCell ⟨q, 0, none⟩ v0).setCell ⟨q, 1, none⟩ v1).setCell ⟨q, 2, none⟩ v2).setCell ⟨q, 3, none⟩ v3) b c e :=
  Blk.other (Blk.other (Blk.other (Blk.other h _ _ hq) _ _ hq) _ _ hq) _ _ hq

set_option maxRecDepth 100000 in
set_option maxHeartbeats 1000000 in
theorem readRow_any (w : World) (b : Nat) (s : ByteArray) (i wd : Nat) (hp : RdB w b s i) (hs : s.size ≤ 1000000) (hn : i ≤ s.size) (hw : wd ≤ s.size) :
    Calls Tryd.prog 55 #[.pointer (some ⟨b, 0, none⟩), .int .i64 wd] w (RwPost s b i wd w) := by
  obtain ⟨c0, c1, -⟩ := hp.cells
  have hbl := Blk.lt hp
  have hrb := Blk.alloc (Blk.new w #[.int .i64 0, .string ⟨#[]⟩, .int .i64 0, .slice none 0 0] 92) (Obj.cells #[] 95)
  have hpa : RdB ((w.alloc (.cells #[.int .i64 0, .string ⟨#[]⟩, .int .i64 0, .slice none 0 0] 92)).alloc (Obj.cells #[] 95)) b s i := Blk.alloc (Blk.alloc hp _) _
  have hfa : Fr (· = b) w ((w.alloc (.cells #[.int .i64 0, .string ⟨#[]⟩, .int .i64 0, .slice none 0 0] 92)).alloc (Obj.cells #[] 95)) := ((Fr.refl _ _).allocr _).allocr _
  have hrow0 : ((w.alloc (.cells #[.int .i64 0, .string ⟨#[]⟩, .int .i64 0, .slice none 0 0] 92)).alloc (Obj.cells #[] 95)).ownsRow 0 95 2 (.slice (some ⟨w.heap.size + 1, 0, none⟩) 0 0) 0 [] := by
    exact ⟨rfl, .inr ⟨w.heap.size + 1, 0, #[], rfl, Nat.zero_le _, Blk.new' _ _ _ _ (by simp), Nat.zero_le _, Nat.zero_le _, rfl, rfl⟩⟩
  go_enter Tryd.func55, Tryd.ntmps55
  go_wp2_with fail
  generalize ((w.alloc (.cells #[.int .i64 0, .string ⟨#[]⟩, .int .i64 0, .slice none 0 0] 92)).alloc (Obj.cells #[] 95)) = W at hrb hpa hfa hrow0 ⊢
  clear c0 c1 hp
  by_cases h61 : byte s i = 61
  · have H61 : Hid (byte s i = 61) := h61
    have hin := sg_in s 61 i (by decide) h61
    clear h61
    refine (skip_yes _ b s 61 _ rfl i hpa hs (by decide) H61.out).mono ?_
    rintro e w1 ⟨rfl, hp1, hf1⟩
    have hrb1 := Blk.fr hrb hf1 (by omega)
    have hfr1 := hfa.thenr hf1 (fun _ _ h => h)
    have hrow1 := row_fr hrow0 hf1 (fun j hj e => by simp only [Value.ownBlock, Option.some.injEq] at hj; omega)
    clear hrb hpa hfa hf1 hrow0
    go_wp2_with fail
    refine (readNumber_any _ b s (i + 1) hp1 hs hin).mono ?_
    rintro e w2 ⟨hyes, hno, hf2⟩
    have hrb2 := Blk.fr hrb1 hf2 (by omega)
    have hfr2 := hfr1.thenr hf2 (fun _ _ h => h)
    have hrow2 := row_fr hrow1 hf2 (fun j hj e => by simp only [Value.ownBlock, Option.some.injEq] at hj; omega)
    clear hrb1 hfr1 hf2 hrow1 hp1
    by_cases hd : isD (byte s (i + 1)) = true
    · obtain ⟨rfl, hp2⟩ := hyes hd
      have hbd := nend_bd s (i + 1) hd
      have hnd : ¬ isD (byte s (i + 1)) = false := by rw [hd]; simp
      have HOK : Hid (byte s (nend s (i + 1)) = 59 → rowP s wd i = (true, nend s (i + 1) + 1, ⟨i, nval s (i + 1), [], cut s i (nend s (i + 1))⟩)) := by
        show _ → _; intro h; unfold rowP; simp only; rw [if_pos H61.out, if_neg hnd, if_neg (fun h' => h' h)]
      have HNO : Hid (byte s (nend s (i + 1)) ≠ 59 → rowP s wd i = (false, nend s (i + 1), ⟨0, 0, [], ⟨#[]⟩⟩)) := by
        show _ → _; intro h; unfold rowP; simp only; rw [if_pos H61.out, if_neg hnd, if_pos h]
      have hlo : ∀ k, (Value.slice (some ⟨w.heap.size + 1, 0, none⟩) 0 0).ownBlock = some k → w.heap.size ≤ k := fun k hk => by simp only [Value.ownBlock, Option.some.injEq] at hk; omega
      have hlo' : ∀ k, (Value.slice (some ⟨w.heap.size + 1, 0, none⟩) 0 0).ownBlock = some k → w.heap.size + 1 ≤ k := fun k hk => by simp only [Value.ownBlock, Option.some.injEq] at hk; omega
      have HSM : Hid (((min (nval s (i + 1)) 99 : Nat) : Int) = smQ (nval s (i + 1))) := by show _ = _; rw [smQ, if_neg (by omega)]; omega
      clear hyes hno hd hnd
      rw [HSM.out]
      generalize hj : nend s (i + 1) = j at *
      by_cases h59 : byte s (j) = 59
      · have HE : Hid (rowP s wd i = (true, j + 1, ⟨i, (nval s (i + 1) : Int), [], cut s i (j)⟩)) := HOK.out h59
        have H59 : Hid (byte s (j) = 59) := h59
        have hin := sg_in s 59 _ (by decide) h59
        clear h59 HOK HNO
        obtain ⟨c0, c1, -⟩ := hp2.cells
        go_wp2_with fail
        go_big_quiet (fail)
        go_wp2_with fail
        refine (skip_yes _ b s 59 _ rfl _ (by exact Blk.drewN hp2 _) hs (by decide) H59.out).mono ?_
        rintro e w3 ⟨rfl, hp3, hf3⟩
        have hrb3 := Blk.fr (Blk.drewN hrb2 _) hf3 (by omega)
        have hfr3 := (hfr2.drewNr _).thenr hf3 (fun _ _ h => h)
        have hrow3 := row_fr (row_fr hrow2 (Fr.drewN (fun _ => False) w2 _) (fun _ _ h => h)) hf3 (fun j hj e => by have := hlo j hj; omega)
        clear hrb2 hfr2 hf3 hp2 c0 c1 hrow2
        have r0 : w3.cell? ⟨w.heap.size, 0, none⟩ = some (.int .i64 0) := by rw [Blk.cell hrb3]; rfl
        have r1 : w3.cell? ⟨w.heap.size, 1, none⟩ = some (.string ⟨#[]⟩) := by rw [Blk.cell hrb3]; rfl
        have r2 : w3.cell? ⟨w.heap.size, 2, none⟩ = some (.int .i64 0) := by rw [Blk.cell hrb3]; rfl
        have r3 : w3.cell? ⟨w.heap.size, 3, none⟩ = some (.slice none 0 0) := by rw [Blk.cell hrb3]; rfl
        have z0 := Blk.frozen hrb3 0
        have z1 := Blk.frozen hrb3 1
        have z2 := Blk.frozen hrb3 2
        have z3 := Blk.frozen hrb3 3
        go_wp2_with fail
        refine bodyPost_ret (v := .tuple #[.agg (RwH.pcells ⟨⟨i, (nval s (i + 1) : Int), [], cut s i (j)⟩, .slice (some ⟨w.heap.size + 1, 0, none⟩) 0 0⟩).toArray, .bool true]) (by simp [results, Tryd.results55, go_sem, r0, r1, r2, r3, RwH.pcells, extract_cut]) rfl ⟨fun _ => ⟨.slice (some ⟨w.heap.size + 1, 0, none⟩) 0 0, ?_, ?_, hlo⟩, fun h => ?_, ?_, ?_⟩
        · rw [HE.out]
        · rw [HE.out]; exact row_fr hrow3 (fr4 (S := fun k => k = w.heap.size) (Fr.refl _ _) w.heap.size (Or.inl rfl) _ _ _ _) (fun k hk e => by have := hlo' k hk; omega)
        · rw [HE.out] at h; cases h
        · rw [HE.out]; exact blk4 hp3 _ (by omega) _ _ _ _
        · exact fr4 hfr3 _ (Or.inr (Nat.le_refl _)) _ _ _ _
      · have HE : Hid (rowP s wd i = (false, j, ⟨0, 0, [], ⟨#[]⟩⟩)) := HNO.out h59
        have H59 : Hid (byte s (j) ≠ 59) := h59
        clear h59 HOK HNO
        obtain ⟨c0, c1, -⟩ := hp2.cells
        go_wp2_with fail
        go_big_quiet (fail)
        go_wp2_with fail
        refine (skip_no _ b s 59 _ rfl _ (by exact Blk.drewN hp2 _) H59.out).mono ?_
        rintro e w3 ⟨rfl, hp3, hf3⟩
        have hrb3 := Blk.fr (Blk.drewN hrb2 _) hf3 (by omega)
        have hfr3 := (hfr2.drewNr _).thenr hf3 (fun _ _ h => h)
        clear hrb2 hfr2 hf3 hp2 c0 c1 hrow2
        have r0 : w3.cell? ⟨w.heap.size, 0, none⟩ = some (.int .i64 0) := by rw [Blk.cell hrb3]; rfl
        have r1 : w3.cell? ⟨w.heap.size, 1, none⟩ = some (.string ⟨#[]⟩) := by rw [Blk.cell hrb3]; rfl
        have r2 : w3.cell? ⟨w.heap.size, 2, none⟩ = some (.int .i64 0) := by rw [Blk.cell hrb3]; rfl
        have r3 : w3.cell? ⟨w.heap.size, 3, none⟩ = some (.slice none 0 0) := by rw [Blk.cell hrb3]; rfl
        have z0 := Blk.frozen hrb3 0
        have z1 := Blk.frozen hrb3 1
        have z2 := Blk.frozen hrb3 2
        have z3 := Blk.frozen hrb3 3
        go_wp2_with fail
        refine bodyPost_ret (v := .tuple #[.agg #[.int .i64 0, .string ⟨#[]⟩, .int .i64 0, .slice none 0 0], .bool false]) (by simp [results, Tryd.results55, go_sem, r0, r1, r2, r3]) rfl ⟨fun h => ?_, fun _ => rfl, ?_, ?_⟩
        · rw [HE.out] at h; cases h
        · rw [HE.out]; exact blk4 hp3 _ (by omega) _ _ _ _
        · exact fr4 hfr3 _ (Or.inr (Nat.le_refl _)) _ _ _ _
    · have hd' : isD (byte s (i + 1)) = false := by simpa using hd
      obtain ⟨rfl, hp2⟩ := hno hd'
      have HE : Hid (rowP s wd i = (false, i + 1, ⟨0, 0, [], ⟨#[]⟩⟩)) := by show _ = _; unfold rowP; simp only; rw [if_pos H61.out, if_pos hd']
      clear hyes hno hd hd'
      obtain ⟨c0, c1, -⟩ := hp2.cells
      go_wp2_with fail
      go_big_quiet (fail)
      have r0 : w2.cell? ⟨w.heap.size, 0, none⟩ = some (.int .i64 0) := by rw [Blk.cell hrb2]; rfl
      have r1 : w2.cell? ⟨w.heap.size, 1, none⟩ = some (.string ⟨#[]⟩) := by rw [Blk.cell hrb2]; rfl
      have r2 : w2.cell? ⟨w.heap.size, 2, none⟩ = some (.int .i64 0) := by rw [Blk.cell hrb2]; rfl
      have r3 : w2.cell? ⟨w.heap.size, 3, none⟩ = some (.slice none 0 0) := by rw [Blk.cell hrb2]; rfl
      have z0 := Blk.frozen hrb2 0
      have z1 := Blk.frozen hrb2 1
      have z2 := Blk.frozen hrb2 2
      have z3 := Blk.frozen hrb2 3
      go_wp2_with fail
      refine bodyPost_ret (v := .tuple #[.agg #[.int .i64 0, .string ⟨#[]⟩, .int .i64 0, .slice none 0 0], .bool false]) (by simp [results, Tryd.results55, go_sem, r0, r1, r2, r3]) rfl ⟨fun h => ?_, fun _ => rfl, ?_, ?_⟩
      · rw [HE.out] at h; cases h
      · rw [HE.out]; exact blk4 (Blk.drewN hp2 _) _ (by omega) _ _ _ _
      · exact fr4 (hfr2.drewNr _) _ (Or.inr (Nat.le_refl _)) _ _ _ _
  · have H61 : Hid (byte s i ≠ 61) := h61
    clear h61
    refine (skip_no _ b s 61 _ rfl i hpa H61.out).mono ?_
    rintro e w1 ⟨rfl, hp1, hf1⟩
    have hrb1 := Blk.fr hrb hf1 (by omega)
    have hfr1 := hfa.thenr hf1 (fun _ _ h => h)
    clear hrb hpa hfa hf1 hrow0
    go_wp2_with fail
    refine (readCells_any _ b s i wd hp1 hs hn hw).mono ?_
    rintro e w2 ⟨cv, rfl, hp2, hf2, hrow2, hlo2⟩
    have hrb2 := Blk.fr hrb1 hf2 (by omega)
    have hfr2 := hfr1.thenr hf2 (fun _ _ h => h)
    have hlt1 := Blk.lt hrb1
    have hlo : ∀ k, cv.ownBlock = some k → w.heap.size ≤ k := fun k hk => by have := hlo2 k hk; omega
    have hlo' : ∀ k, cv.ownBlock = some k → w.heap.size + 1 ≤ k := fun k hk => by have := hlo2 k hk; omega
    have hbd := clF_bd s wd i [] hn
    clear hrb1 hfr1 hf2 hp1 hlo2
    by_cases hok : (clF s wd i []).1 = true
    · have hnd : ¬ (clF s wd i []).1 = false := by rw [hok]; simp
      have HOK : Hid (byte s (clF s wd i []).2.1 = 59 → rowP s wd i = (true, (clF s wd i []).2.1 + 1, ⟨i, -1, (clF s wd i []).2.2, cut s i (clF s wd i []).2.1⟩)) := by
        show _ → _; intro h; unfold rowP; simp only; rw [if_neg H61.out, if_neg hnd, if_neg (fun h' => h' h)]
      have HNO : Hid (byte s (clF s wd i []).2.1 ≠ 59 → rowP s wd i = (false, (clF s wd i []).2.1, ⟨0, 0, [], ⟨#[]⟩⟩)) := by
        show _ → _; intro h; unfold rowP; simp only; rw [if_neg H61.out, if_neg hnd, if_pos h]
      rw [hok]
      clear hok hnd
      generalize hj : (clF s wd i []).2.1 = j at *
      generalize hcl : (clF s wd i []).2.2 = cl at *
      obtain ⟨ca, cc, hcv⟩ := row_len hrow2
      subst hcv
      by_cases h59 : byte s (j) = 59
      · have HE : Hid (rowP s wd i = (true, j + 1, ⟨i, (-1 : Int), cl, cut s i (j)⟩)) := HOK.out h59
        have H59 : Hid (byte s (j) = 59) := h59
        have hin := sg_in s 59 _ (by decide) h59
        clear h59 HOK HNO
        obtain ⟨c0, c1, -⟩ := hp2.cells
        go_wp2_with fail
        go_big_quiet (fail)
        go_wp2_with fail
        refine (skip_yes _ b s 59 _ rfl _ (by exact Blk.drewN hp2 _) hs (by decide) H59.out).mono ?_
        rintro e w3 ⟨rfl, hp3, hf3⟩
        have hrb3 := Blk.fr (Blk.drewN hrb2 _) hf3 (by omega)
        have hfr3 := (hfr2.drewNr _).thenr hf3 (fun _ _ h => h)
        have hrow3 := row_fr (row_fr hrow2 (Fr.drewN (fun _ => False) w2 _) (fun _ _ h => h)) hf3 (fun j hj e => by have := hlo j hj; omega)
        clear hrb2 hfr2 hf3 hp2 c0 c1 hrow2
        have r0 : w3.cell? ⟨w.heap.size, 0, none⟩ = some (.int .i64 0) := by rw [Blk.cell hrb3]; rfl
        have r1 : w3.cell? ⟨w.heap.size, 1, none⟩ = some (.string ⟨#[]⟩) := by rw [Blk.cell hrb3]; rfl
        have r2 : w3.cell? ⟨w.heap.size, 2, none⟩ = some (.int .i64 0) := by rw [Blk.cell hrb3]; rfl
        have r3 : w3.cell? ⟨w.heap.size, 3, none⟩ = some (.slice none 0 0) := by rw [Blk.cell hrb3]; rfl
        have z0 := Blk.frozen hrb3 0
        have z1 := Blk.frozen hrb3 1
        have z2 := Blk.frozen hrb3 2
        have z3 := Blk.frozen hrb3 3
        go_wp2_with fail
        refine bodyPost_ret (v := .tuple #[.agg (RwH.pcells ⟨⟨i, (-1 : Int), cl, cut s i (j)⟩, .slice ca cl.length cc⟩).toArray, .bool true]) (by simp [results, Tryd.results55, go_sem, r0, r1, r2, r3, RwH.pcells, extract_cut, smQ]) rfl ⟨fun _ => ⟨.slice ca cl.length cc, ?_, ?_, hlo⟩, fun h => ?_, ?_, ?_⟩
        · rw [HE.out]
        · rw [HE.out]; exact row_fr hrow3 (fr4 (S := fun k => k = w.heap.size) (Fr.refl _ _) w.heap.size (Or.inl rfl) _ _ _ _) (fun k hk e => by have := hlo' k hk; omega)
        · rw [HE.out] at h; cases h
        · rw [HE.out]; exact blk4 hp3 _ (by omega) _ _ _ _
        · exact fr4 hfr3 _ (Or.inr (Nat.le_refl _)) _ _ _ _
      · have HE : Hid (rowP s wd i = (false, j, ⟨0, 0, [], ⟨#[]⟩⟩)) := HNO.out h59
        have H59 : Hid (byte s (j) ≠ 59) := h59
        clear h59 HOK HNO
        obtain ⟨c0, c1, -⟩ := hp2.cells
        go_wp2_with fail
        go_big_quiet (fail)
        go_wp2_with fail
        refine (skip_no _ b s 59 _ rfl _ (by exact Blk.drewN hp2 _) H59.out).mono ?_
        rintro e w3 ⟨rfl, hp3, hf3⟩
        have hrb3 := Blk.fr (Blk.drewN hrb2 _) hf3 (by omega)
        have hfr3 := (hfr2.drewNr _).thenr hf3 (fun _ _ h => h)
        clear hrb2 hfr2 hf3 hp2 c0 c1 hrow2
        have r0 : w3.cell? ⟨w.heap.size, 0, none⟩ = some (.int .i64 0) := by rw [Blk.cell hrb3]; rfl
        have r1 : w3.cell? ⟨w.heap.size, 1, none⟩ = some (.string ⟨#[]⟩) := by rw [Blk.cell hrb3]; rfl
        have r2 : w3.cell? ⟨w.heap.size, 2, none⟩ = some (.int .i64 0) := by rw [Blk.cell hrb3]; rfl
        have r3 : w3.cell? ⟨w.heap.size, 3, none⟩ = some (.slice none 0 0) := by rw [Blk.cell hrb3]; rfl
        have z0 := Blk.frozen hrb3 0
        have z1 := Blk.frozen hrb3 1
        have z2 := Blk.frozen hrb3 2
        have z3 := Blk.frozen hrb3 3
        go_wp2_with fail
        refine bodyPost_ret (v := .tuple #[.agg #[.int .i64 0, .string ⟨#[]⟩, .int .i64 0, .slice none 0 0], .bool false]) (by simp [results, Tryd.results55, go_sem, r0, r1, r2, r3]) rfl ⟨fun h => ?_, fun _ => rfl, ?_, ?_⟩
        · rw [HE.out] at h; cases h
        · rw [HE.out]; exact blk4 hp3 _ (by omega) _ _ _ _
        · exact fr4 hfr3 _ (Or.inr (Nat.le_refl _)) _ _ _ _
    · have hok' : (clF s wd i []).1 = false := by simpa using hok
      have HE : Hid (rowP s wd i = (false, (clF s wd i []).2.1, ⟨0, 0, [], ⟨#[]⟩⟩)) := by show _ = _; unfold rowP; simp only; rw [if_neg H61.out, if_pos hok']
      rw [hok']
      clear hok hok'
      generalize hj : (clF s wd i []).2.1 = j at *
      obtain ⟨ca, cc, hcv⟩ := row_len hrow2
      subst hcv
      obtain ⟨c0, c1, -⟩ := hp2.cells
      go_wp2_with fail
      go_big_quiet (fail)
      have r0 : w2.cell? ⟨w.heap.size, 0, none⟩ = some (.int .i64 0) := by rw [Blk.cell hrb2]; rfl
      have r1 : w2.cell? ⟨w.heap.size, 1, none⟩ = some (.string ⟨#[]⟩) := by rw [Blk.cell hrb2]; rfl
      have r2 : w2.cell? ⟨w.heap.size, 2, none⟩ = some (.int .i64 0) := by rw [Blk.cell hrb2]; rfl
      have r3 : w2.cell? ⟨w.heap.size, 3, none⟩ = some (.slice none 0 0) := by rw [Blk.cell hrb2]; rfl
      have z0 := Blk.frozen hrb2 0
      have z1 := Blk.frozen hrb2 1
      have z2 := Blk.frozen hrb2 2
      have z3 := Blk.frozen hrb2 3
      go_wp2_with fail
      refine bodyPost_ret (v := .tuple #[.agg #[.int .i64 0, .string ⟨#[]⟩, .int .i64 0, .slice none 0 0], .bool false]) (by simp [results, Tryd.results55, go_sem, r0, r1, r2, r3]) rfl ⟨fun h => ?_, fun _ => rfl, ?_, ?_⟩
      · rw [HE.out] at h; cases h
      · rw [HE.out]; exact blk4 (Blk.drewN hp2 _) _ (by omega) _ _ _ _
      · exact fr4 (hfr2.drewNr _) _ (Or.inr (Nat.le_refl _)) _ _ _ _
end Go.Proofs.YtmolmbeeoecnfabDoor

/- Own work: walks of the document's table reader: one cell, plainly; row. -/
namespace Go.Proofs.YtmolmbeeoecnfabDoor
open Go.RowKit Go.BigFrame
set_option linter.unusedVariables false
set_option linter.unusedSimpArgs false

def nuV (s : ByteArray) (i : Nat) (bad : Int) : Nat := if 0 ≤ bad then 0 else if isD (byte s i) = true then nval s i else 0
def nuI (s : ByteArray) (i : Nat) (bad : Int) : Nat := if 0 ≤ bad then i else if isD (byte s i) = true then nend s i else i
def nuB (s : ByteArray) (i : Nat) (bad : Int) : Int := if 0 ≤ bad then bad else if isD (byte s i) = true then bad else i

theorem num_any (w : World) (b : Nat) (s : ByteArray) (i : Nat) (bad : Int) (v3 v4 v5 v6 : Value) (hp : PenB w b s i bad v3 v4 v5 v6) (hs : s.size ≤ 1000000) (hn : i ≤ s.size) (hb : bad = -1 ∨ 0 ≤ bad) :
    Calls Tryd.prog 69 #[.pointer (some ⟨b, 0, none⟩)] w fun e w' => e = .returned (.int .i64 (nuV s i bad)) ∧ PenB w' b s (nuI s i bad) (nuB s i bad) v3 v4 v5 v6 ∧ Fr (· = b) w w' := by
  by_cases h : 0 ≤ bad
  · rw [show nuV s i bad = 0 by simp [nuV, h], show nuI s i bad = i by simp [nuI, h], show nuB s i bad = bad by simp [nuB, h]]
    exact num_bad w b s i bad v3 v4 v5 v6 hp (by omega) h
  · have h1 : bad = -1 := by omega
    subst h1
    refine (num_good w b s i v3 v4 v5 v6 hp hs hn).mono ?_
    rintro e w1 ⟨hy, hno, hf⟩
    by_cases hd : isD (byte s i) = true
    · obtain ⟨rfl, hp1⟩ := hy hd
      rw [show nuV s i (-1) = nval s i by simp [nuV, hd], show nuI s i (-1) = nend s i by simp [nuI, hd], show nuB s i (-1) = -1 by simp [nuB, hd]]
      exact ⟨rfl, hp1, hf⟩
    · obtain ⟨rfl, hp1⟩ := hno (by simpa using hd)
      rw [show nuV s i (-1) = 0 by simp [nuV, hd], show nuI s i (-1) = i by simp [nuI, hd], show nuB s i (-1) = i by simp [nuB, hd]]
      exact ⟨rfl, hp1, hf⟩

/-- A cell, in whatever state. -/
def dcI (s : ByteArray) (i : Nat) (bad : Int) : Nat := dgI s (tkI s 58 58 (nuI s i bad) (nuB s i bad)) (tkB s 58 58 (nuI s i bad) (nuB s i bad))
def dcB (s : ByteArray) (i : Nat) (bad : Int) : Int := tkB s 58 58 (nuI s i bad) (nuB s i bad)
def dcC (s : ByteArray) (i : Nat) (bad : Int) : Cl := ⟨nuV s i bad, dgS s (tkI s 58 58 (nuI s i bad) (nuB s i bad)) (tkB s 58 58 (nuI s i bad) (nuB s i bad))⟩

theorem nuI_bd (s : ByteArray) (i : Nat) (bad : Int) (h : i ≤ s.size) : i ≤ nuI s i bad ∧ nuI s i bad ≤ s.size := by
  unfold nuI; split
  · omega
  · split
    · have := nend_bd s i ‹_›; omega
    · omega
theorem dcI_bd (s : ByteArray) (i : Nat) (bad : Int) (h : i ≤ s.size) : i ≤ dcI s i bad ∧ dcI s i bad ≤ s.size := by
  have h1 := nuI_bd s i bad h
  have h2 := tkI_bd s 58 58 (nuI s i bad) (nuB s i bad) h1.2
  have h3 := dgI_bd s (tkI s 58 58 (nuI s i bad) (nuB s i bad)) (tkB s 58 58 (nuI s i bad) (nuB s i bad)) h2.2
  unfold dcI; omega
theorem dc_bad (s : ByteArray) (i : Nat) (bad : Int) (h : 0 ≤ bad) : dcB s i bad = bad := by simp [dcB, nuB, tkB, h]
theorem dc_ok (s : ByteArray) (i : Nat) (h : (cellP s i).1 = true) : dcI s i (-1) = (cellP s i).2.1 ∧ dcB s i (-1) = -1 ∧ dcC s i (-1) = (cellP s i).2.2 := by
  revert h
  unfold cellP
  split
  · intro h; cases h
  · rename_i h1
    have hd : isD (byte s i) = true := by simpa using h1
    split
    · intro h; cases h
    · rename_i h2
      have h58 : byte s (nend s i) = 58 := by simpa using h2
      intro _
      have e1 : nuI s i (-1) = nend s i := by simp [nuI, hd]
      have e2 : nuB s i (-1) = -1 := by simp [nuB, hd]
      have e3 : tkOk s 58 58 (nend s i) = true := by rw [tkOk_1 s 58 _ (by decide)]; simp [h58]
      have e4 : tkI s 58 58 (nend s i) (-1) = nend s i + 1 := by simp [tkI, e3]
      have e5 : tkB s 58 58 (nend s i) (-1) = -1 := by simp [tkB, e3]
      have e6 : nuV s i (-1) = nval s i := by simp [nuV, hd]
      unfold dcI dcB dcC
      rw [e1, e2, e4, e5, e6]
      simp [dgI, dgS]
theorem dc_no (s : ByteArray) (i : Nat) (h : (cellP s i).1 = false) : dcB s i (-1) = (cellP s i).2.1 := by
  revert h
  unfold cellP
  split
  · rename_i h1
    intro _
    simp [dcB, nuI, nuB, h1, tkB]
  · rename_i h1
    have hd : isD (byte s i) = true := by simpa using h1
    split
    · rename_i h2
      intro _
      have e3 : tkOk s 58 58 (nend s i) = false := by rw [tkOk_1 s 58 _ (by decide)]; simpa using h2
      have e1 : nuI s i (-1) = nend s i := by simp [nuI, hd]
      have e2 : nuB s i (-1) = -1 := by simp [nuB, hd]
      unfold dcB
      rw [e1, e2]
      simp [tkB, e3]
    · intro h; cases h

/-- The state behind a comma, if one is asked for. -/
def cmI (s : ByteArray) (k i : Nat) : Nat := if k = 0 then i else tkI s 44 44 i (-1)
def cmB (s : ByteArray) (k i : Nat) : Int := if k = 0 then -1 else tkB s 44 44 i (-1)

/-- The state of the cells' loop: what it says of them all. -/
def ClSt (s : ByteArray) (wd i : Nat) (k j : Nat) (bad : Int) (a : List Cl) : Prop :=
  (bad = -1 ∧ a.length = k ∧ clF s wd i [] = clF s (wd - k) j a) ∨ (0 ≤ bad ∧ (clF s wd i []).1 = false ∧ ((clF s wd i []).2.1 : Int) = bad)

theorem clSt_step (s : ByteArray) (wd i k j : Nat) (a : List Cl) (hj : j ≤ s.size) (hk : k < wd) (h : ClSt s wd i k j (-1) a) :
    ClSt s wd i (k + 1) (dcI s (cmI s k j) (cmB s k j)) (dcB s (cmI s k j) (cmB s k j)) (a ++ [dcC s (cmI s k j) (cmB s k j)]) := by
  rcases h with ⟨-, hl, he⟩ | ⟨h0, -⟩
  · subst hl
    by_cases hc : a = [] ∨ byte s j = 44
    · have e1 : cmI s a.length j = clJ a j ∧ cmB s a.length j = -1 := by
        unfold cmI cmB clJ
        by_cases ha : a = []
        · subst ha; simp
        · have hl : a.length ≠ 0 := fun h => ha (List.eq_nil_of_length_eq_zero h)
          have h44 : byte s j = 44 := hc.resolve_left ha
          have hk1 : tkOk s 44 44 j = true := by rw [tkOk_1 s 44 _ (by decide)]; simp [h44]
          rw [if_neg hl, if_neg hl, if_neg ha]
          simp [tkI, tkB, hk1]
      rw [e1.1, e1.2]
      cases hok : (cellP s (clJ a j)).1
      · right
        have h1 := dc_no s _ hok
        have h2 := clF_bad s wd j a hk hc hok
        rw [h1, he, h2]
        exact ⟨by omega, rfl, rfl⟩
      · left
        obtain ⟨h1, h2, h3⟩ := dc_ok s _ hok
        rw [h1, h2, h3, he, clF_go s wd j a hk hc hok]
        exact ⟨rfl, by simp, by simp⟩
    · right
      have ha : a ≠ [] := fun h => hc (Or.inl h)
      have h44 : byte s j ≠ 44 := fun h => hc (Or.inr h)
      have hl : a.length ≠ 0 := fun h => ha (List.eq_nil_of_length_eq_zero h)
      have hk1 : tkOk s 44 44 j = false := by rw [tkOk_1 s 44 _ (by decide)]; simp [h44]
      have e2 : cmB s a.length j = j := by unfold cmB; rw [if_neg hl]; simp [tkB, hk1]
      rw [e2, dc_bad s _ _ (by omega), he, clF_no s wd j a hk ha h44]
      exact ⟨by omega, rfl, rfl⟩
  · omega

def clD (x : Cl) : List Value := [.int .i64 x.dst, .string x.acts]
theorem clD_len (x : Cl) : (clD x).length = 2 := rfl
theorem elemDCell : ElemOk Tryd.prog 39 42 2 24 where
  ht := Tryd.underlying39
  info := by
    obtain ⟨i, h0, h1, h2, h3⟩ := info_parts (show (Tryd.prog.info? 42).map (fun i => (i.zero, i.size, i.bytes)) = some (some (.agg #[.int .i64 0, .string ⟨#[]⟩]), 2, 24) by kernel_rfl)
    exact ⟨i, _, h0, h1, h2, h3, rfl⟩
  pos := by decide
def dText (q : Rw) : ByteArray := if q.same < 0 then q.text else ⟨#[]⟩
def RwH.dcells (x : RwH) : List Value := [.int .i64 x.q.at_, .int .i64 x.q.same, x.cv, .string (dText x.q)]
theorem RwH.dlen (x : RwH) : x.dcells.length = 4 := rfl

def DrPost (s : ByteArray) (b i wd : Nat) (v3 v4 v5 v6 : Value) (w : World) (e : Ending) (w' : World) : Prop :=
  ((rowP s wd i).1 = true → ∃ cv, e = .returned (.agg (RwH.dcells ⟨(rowP s wd i).2.2, cv⟩).toArray) ∧ PenB w' b s (rowP s wd i).2.1 (-1) v3 v4 v5 v6 ∧ w'.ownsRow 0 42 2 cv (rowP s wd i).2.2.cells.length ((rowP s wd i).2.2.cells.flatMap clD) ∧ (∀ k, cv.ownBlock = some k → w.heap.size ≤ k)) ∧
  ((rowP s wd i).1 = false → ∃ at_ sm ca n cc tx, e = .returned (.agg #[.int .i64 at_, .int .i64 sm, .slice ca n cc, .string tx]) ∧ ∃ i', PenB w' b s i' (rowP s wd i).2.1 v3 v4 v5 v6) ∧ Fr (· = b) w w'

end Go.Proofs.YtmolmbeeoecnfabDoor
