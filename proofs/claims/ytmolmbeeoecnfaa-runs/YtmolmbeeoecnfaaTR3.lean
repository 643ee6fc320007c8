/- Own work: walks of the program's table reader: readRow. -/
import Derived.Test.YtmolmbeeoecnfaaTR2
namespace Go.Proofs.Ytmolmbeeoecnfaa
open Go.RowKit Go.BigFrame
set_option linter.unusedVariables false
set_option linter.unusedSimpArgs false

def smQ (x : Int) : Int := if x < 0 then -1 else min x 99
/-- A row in memory. -/
structure RwH where
  q : Rw
  cv : Value
def RwH.pcells (x : RwH) : List Value := [.int .i64 x.q.at_, .string x.q.text, .int .i64 (smQ x.q.same), x.cv]

def RwPost (s : ByteArray) (b i wd : Nat) (w : World) (e : Ending) (w' : World) : Prop :=
  ((rowP s wd i).1 = true → ∃ cv, e = .returned (.tuple #[.agg (RwH.pcells ⟨(rowP s wd i).2.2, cv⟩).toArray, .bool true]) ∧ w'.ownsRow 0 146 2 cv (rowP s wd i).2.2.cells.length ((rowP s wd i).2.2.cells.flatMap clQ) ∧ (∀ k, cv.ownBlock = some k → w.heap.size ≤ k)) ∧
  ((rowP s wd i).1 = false → e = .returned (.tuple #[.agg #[.int .i64 0, .string ⟨#[]⟩, .int .i64 0, .slice none 0 0], .bool false])) ∧
  RdB w' b s (rowP s wd i).2.1 ∧ Fr (· = b) w w'

theorem fr4 {S : Nat → Prop} {a w : World} (h : Fr S a w) (q : Nat) (hq : S q ∨ a.heap.size ≤ q) (v0 v1 v2 v3 : Value) : Fr S a ((((w.setCell ⟨q, 0, none⟩ v0).setCell ⟨q, 1, none⟩ v1).setCell ⟨q, 2, none⟩ v2).setCell ⟨q, 3, none⟩ v3) :=
  (((h.setCellr ⟨q, 0, none⟩ _ hq).setCellr ⟨q, 1, none⟩ _ hq).setCellr ⟨q, 2, none⟩ _ hq).setCellr ⟨q, 3, none⟩ _ hq
theorem blk4 {w : World} {b : Nat} {c : Array Value} {e : TypeId} (h : Blk w b c e) (q : Nat) (hq : b ≠ q) (v0 v1 v2 v3 : Value) : Blk ((((w.setCell ⟨q, 0, none⟩ v0).setCell ⟨q, 1, none⟩ v1).setCell ⟨q, 2, none⟩ v2).setCell ⟨q, 3, none⟩ v3) b c e :=
  Blk.other (Blk.other (Blk.other (Blk.other h _ _ hq) _ _ hq) _ _ hq) _ _ hq

set_option maxRecDepth 100000 in
set_option maxHeartbeats 1000000 in
theorem readRow_any (w : World) (b : Nat) (s : ByteArray) (i wd : Nat) (hp : RdB w b s i) (hs : s.size ≤ 1000000) (hn : i ≤ s.size) (hw : wd ≤ s.size) :
    Calls Try.prog 91 #[.pointer (some ⟨b, 0, none⟩), .int .i64 wd] w (RwPost s b i wd w) := by
  obtain ⟨c0, c1, -⟩ := hp.cells
  have hbl := Blk.lt hp
  have hrb := Blk.alloc (Blk.new w #[.int .i64 0, .string ⟨#[]⟩, .int .i64 0, .slice none 0 0] 144) (Obj.cells #[] 146)
  have hpa : RdB ((w.alloc (.cells #[.int .i64 0, .string ⟨#[]⟩, .int .i64 0, .slice none 0 0] 144)).alloc (Obj.cells #[] 146)) b s i := Blk.alloc (Blk.alloc hp _) _
  have hfa : Fr (· = b) w ((w.alloc (.cells #[.int .i64 0, .string ⟨#[]⟩, .int .i64 0, .slice none 0 0] 144)).alloc (Obj.cells #[] 146)) := ((Fr.refl _ _).allocr _).allocr _
  have hrow0 : ((w.alloc (.cells #[.int .i64 0, .string ⟨#[]⟩, .int .i64 0, .slice none 0 0] 144)).alloc (Obj.cells #[] 146)).ownsRow 0 146 2 (.slice (some ⟨w.heap.size + 1, 0, none⟩) 0 0) 0 [] := by
    exact ⟨rfl, .inr ⟨w.heap.size + 1, 0, #[], rfl, Nat.zero_le _, Blk.new' _ _ _ _ (by simp), Nat.zero_le _, Nat.zero_le _, rfl, rfl⟩⟩
  go_enter Try.func91, Try.ntmps91
  go_wp2_with fail
  generalize ((w.alloc (.cells #[.int .i64 0, .string ⟨#[]⟩, .int .i64 0, .slice none 0 0] 144)).alloc (Obj.cells #[] 146)) = W at hrb hpa hfa hrow0 ⊢
  clear c0 c1 hp
  by_cases h61 : byte s i = 61
  · have H61 : Hid (byte s i = 61) := h61
    have hin := sg_in s 61 i (by decide) h61
    clear h61
    refine (skip_yes _ b s 61 _ rfl i hpa hs (by decide) H61.out).mono ?_
    rintro e w1 ⟨rfl, hp1, hf1⟩
    have hrb1 := Blk.fr hrb hf1 (by omega)
    have hfr1 := hfa.thenr hf1 (fun _ _ h => h)
    have hrow1 := row_fr hrow0 hf1 (fun j hj e => by simp only [Value.ownBlock, Option.some.injEq] at hj; omega)
    clear hrb hpa hfa hf1 hrow0
    go_wp2_with fail
    refine (readNumber_any _ b s (i + 1) hp1 hs hin).mono ?_
    rintro e w2 ⟨hyes, hno, hf2⟩
    have hrb2 := Blk.fr hrb1 hf2 (by omega)
    have hfr2 := hfr1.thenr hf2 (fun _ _ h => h)
    have hrow2 := row_fr hrow1 hf2 (fun j hj e => by simp only [Value.ownBlock, Option.some.injEq] at hj; omega)
    clear hrb1 hfr1 hf2 hrow1 hp1
    by_cases hd : isD (byte s (i + 1)) = true
    · obtain ⟨rfl, hp2⟩ := hyes hd
      have hbd := nend_bd s (i + 1) hd
      have hnd : ¬ isD (byte s (i + 1)) = false := by rw [hd]; simp
      have HOK : Hid (byte s (nend s (i + 1)) = 59 → rowP s wd i = (true, nend s (i + 1) + 1, ⟨i, nval s (i + 1), [], cut s i (nend s (i + 1))⟩)) := by
        show _ → _; intro h; unfold rowP; simp only; rw [if_pos H61.out, if_neg hnd, if_neg (fun h' => h' h)]
      have HNO : Hid (byte s (nend s (i + 1)) ≠ 59 → rowP s wd i = (false, nend s (i + 1), ⟨0, 0, [], ⟨#[]⟩⟩)) := by
        show _ → _; intro h; unfold rowP; simp only; rw [if_pos H61.out, if_neg hnd, if_pos h]
      have hlo : ∀ k, (Value.slice (some ⟨w.heap.size + 1, 0, none⟩) 0 0).ownBlock = some k → w.heap.size ≤ k := fun k hk => by simp only [Value.ownBlock, Option.some.injEq] at hk; omega
      have hlo' : ∀ k, (Value.slice (some ⟨w.heap.size + 1, 0, none⟩) 0 0).ownBlock = some k → w.heap.size + 1 ≤ k := fun k hk => by simp only [Value.ownBlock, Option.some.injEq] at hk; omega
      have HSM : Hid (((min (nval s (i + 1)) 99 : Nat) : Int) = smQ (nval s (i + 1))) := by show _ = _; rw [smQ, if_neg (by omega)]; omega
      clear hyes hno hd hnd
      rw [HSM.out]
      generalize hj : nend s (i + 1) = j at *
      by_cases h59 : byte s (j) = 59
      · have HE : Hid (rowP s wd i = (true, j + 1, ⟨i, (nval s (i + 1) : Int), [], cut s i (j)⟩)) := HOK.out h59
        have H59 : Hid (byte s (j) = 59) := h59
        have hin := sg_in s 59 _ (by decide) h59
        clear h59 HOK HNO
        obtain ⟨c0, c1, -⟩ := hp2.cells
        go_wp2_with fail
        go_big_quiet (fail)
        go_wp2_with fail
        refine (skip_yes _ b s 59 _ rfl _ (by exact Blk.drewN hp2 _) hs (by decide) H59.out).mono ?_
        rintro e w3 ⟨rfl, hp3, hf3⟩
        have hrb3 := Blk.fr (Blk.drewN hrb2 _) hf3 (by omega)
        have hfr3 := (hfr2.drewNr _).thenr hf3 (fun _ _ h => h)
        have hrow3 := row_fr (row_fr hrow2 (Fr.drewN (fun _ => False) w2 _) (fun _ _ h => h)) hf3 (fun j hj e => by have := hlo j hj; omega)
        clear hrb2 hfr2 hf3 hp2 c0 c1 hrow2
        have r0 : w3.cell? ⟨w.heap.size, 0, none⟩ = some (.int .i64 0) := by rw [Blk.cell hrb3]; rfl
        have r1 : w3.cell? ⟨w.heap.size, 1, none⟩ = some (.string ⟨#[]⟩) := by rw [Blk.cell hrb3]; rfl
        have r2 : w3.cell? ⟨w.heap.size, 2, none⟩ = some (.int .i64 0) := by rw [Blk.cell hrb3]; rfl
        have r3 : w3.cell? ⟨w.heap.size, 3, none⟩ = some (.slice none 0 0) := by rw [Blk.cell hrb3]; rfl
        have z0 := Blk.frozen hrb3 0
        have z1 := Blk.frozen hrb3 1
        have z2 := Blk.frozen hrb3 2
        have z3 := Blk.frozen hrb3 3
        go_wp2_with fail
        refine bodyPost_ret (v := .tuple #[.agg (RwH.pcells ⟨⟨i, (nval s (i + 1) : Int), [], cut s i (j)⟩, .slice (some ⟨w.heap.size + 1, 0, none⟩) 0 0⟩).toArray, .bool true]) (by simp [results, Try.results91, go_sem, r0, r1, r2, r3, RwH.pcells, extract_cut]) rfl ⟨fun _ => ⟨.slice (some ⟨w.heap.size + 1, 0, none⟩) 0 0, ?_, ?_, hlo⟩, fun h => ?_, ?_, ?_⟩
        · rw [HE.out]
        · rw [HE.out]; exact row_fr hrow3 (fr4 (S := fun k => k = w.heap.size) (Fr.refl _ _) w.heap.size (Or.inl rfl) _ _ _ _) (fun k hk e => by have := hlo' k hk; omega)
        · rw [HE.out] at h; cases h
        · rw [HE.out]; exact blk4 hp3 _ (by omega) _ _ _ _
        · exact fr4 hfr3 _ (Or.inr (Nat.le_refl _)) _ _ _ _
      · have HE : Hid (rowP s wd i = (false, j, ⟨0, 0, [], ⟨#[]⟩⟩)) := HNO.out h59
        have H59 : Hid (byte s (j) ≠ 59) := h59
        clear h59 HOK HNO
        obtain ⟨c0, c1, -⟩ := hp2.cells
        go_wp2_with fail
        go_big_quiet (fail)
        go_wp2_with fail
        refine (skip_no _ b s 59 _ rfl _ (by exact Blk.drewN hp2 _) H59.out).mono ?_
        rintro e w3 ⟨rfl, hp3, hf3⟩
        have hrb3 := Blk.fr (Blk.drewN hrb2 _) hf3 (by omega)
        have hfr3 := (hfr2.drewNr _).thenr hf3 (fun _ _ h => h)
        clear hrb2 hfr2 hf3 hp2 c0 c1 hrow2
        have r0 : w3.cell? ⟨w.heap.size, 0, none⟩ = some (.int .i64 0) := by rw [Blk.cell hrb3]; rfl
        have r1 : w3.cell? ⟨w.heap.size, 1, none⟩ = some (.string ⟨#[]⟩) := by rw [Blk.cell hrb3]; rfl
        have r2 : w3.cell? ⟨w.heap.size, 2, none⟩ = some (.int .i64 0) := by rw [Blk.cell hrb3]; rfl
        have r3 : w3.cell? ⟨w.heap.size, 3, none⟩ = some (.slice none 0 0) := by rw [Blk.cell hrb3]; rfl
        have z0 := Blk.frozen hrb3 0
        have z1 := Blk.frozen hrb3 1
        have z2 := Blk.frozen hrb3 2
        have z3 := Blk.frozen hrb3 3
        go_wp2_with fail
        refine bodyPost_ret (v := .tuple #[.agg #[.int .i64 0, .string ⟨#[]⟩, .int .i64 0, .slice none 0 0], .bool false]) (by simp [results, Try.results91, go_sem, r0, r1, r2, r3]) rfl ⟨fun h => ?_, fun _ => rfl, ?_, ?_⟩
        · rw [HE.out] at h; cases h
        · rw [HE.out]; exact blk4 hp3 _ (by omega) _ _ _ _
        · exact fr4 hfr3 _ (Or.inr (Nat.le_refl _)) _ _ _ _
    · have hd' : isD (byte s (i + 1)) = false := by simpa using hd
      obtain ⟨rfl, hp2⟩ := hno hd'
      have HE : Hid (rowP s wd i = (false, i + 1, ⟨0, 0, [], ⟨#[]⟩⟩)) := by show _ = _; unfold rowP; simp only; rw [if_pos H61.out, if_pos hd']
      clear hyes hno hd hd'
      obtain ⟨c0, c1, -⟩ := hp2.cells
      go_wp2_with fail
      go_big_quiet (fail)
      have r0 : w2.cell? ⟨w.heap.size, 0, none⟩ = some (.int .i64 0) := by rw [Blk.cell hrb2]; rfl
      have r1 : w2.cell? ⟨w.heap.size, 1, none⟩ = some (.string ⟨#[]⟩) := by rw [Blk.cell hrb2]; rfl
      have r2 : w2.cell? ⟨w.heap.size, 2, none⟩ = some (.int .i64 0) := by rw [Blk.cell hrb2]; rfl
      have r3 : w2.cell? ⟨w.heap.size, 3, none⟩ = some (.slice none 0 0) := by rw [Blk.cell hrb2]; rfl
      have z0 := Blk.frozen hrb2 0
      have z1 := Blk.frozen hrb2 1
      have z2 := Blk.frozen hrb2 2
      have z3 := Blk.frozen hrb2 3
      go_wp2_with fail
      refine bodyPost_ret (v := .tuple #[.agg #[.int .i64 0, .string ⟨#[]⟩, .int .i64 0, .slice none 0 0], .bool false]) (by simp [results, Try.results91, go_sem, r0, r1, r2, r3]) rfl ⟨fun h => ?_, fun _ => rfl, ?_, ?_⟩
      · rw [HE.out] at h; cases h
      · rw [HE.out]; exact blk4 (Blk.drewN hp2 _) _ (by omega) _ _ _ _
      · exact fr4 (hfr2.drewNr _) _ (Or.inr (Nat.le_refl _)) _ _ _ _
  · have H61 : Hid (byte s i ≠ 61) := h61
    clear h61
    refine (skip_no _ b s 61 _ rfl i hpa H61.out).mono ?_
    rintro e w1 ⟨rfl, hp1, hf1⟩
    have hrb1 := Blk.fr hrb hf1 (by omega)
    have hfr1 := hfa.thenr hf1 (fun _ _ h => h)
    clear hrb hpa hfa hf1 hrow0
    go_wp2_with fail
    refine (readCells_any _ b s i wd hp1 hs hn hw).mono ?_
    rintro e w2 ⟨cv, rfl, hp2, hf2, hrow2, hlo2⟩
    have hrb2 := Blk.fr hrb1 hf2 (by omega)
    have hfr2 := hfr1.thenr hf2 (fun _ _ h => h)
    have hlt1 := Blk.lt hrb1
    have hlo : ∀ k, cv.ownBlock = some k → w.heap.size ≤ k := fun k hk => by have := hlo2 k hk; omega
    have hlo' : ∀ k, cv.ownBlock = some k → w.heap.size + 1 ≤ k := fun k hk => by have := hlo2 k hk; omega
    have hbd := clF_bd s wd i [] hn
    clear hrb1 hfr1 hf2 hp1 hlo2
    by_cases hok : (clF s wd i []).1 = true
    · have hnd : ¬ (clF s wd i []).1 = false := by rw [hok]; simp
      have HOK : Hid (byte s (clF s wd i []).2.1 = 59 → rowP s wd i = (true, (clF s wd i []).2.1 + 1, ⟨i, -1, (clF s wd i []).2.2, cut s i (clF s wd i []).2.1⟩)) := by
        show _ → _; intro h; unfold rowP; simp only; rw [if_neg H61.out, if_neg hnd, if_neg (fun h' => h' h)]
      have HNO : Hid (byte s (clF s wd i []).2.1 ≠ 59 → rowP s wd i = (false, (clF s wd i []).2.1, ⟨0, 0, [], ⟨#[]⟩⟩)) := by
        show _ → _; intro h; unfold rowP; simp only; rw [if_neg H61.out, if_neg hnd, if_pos h]
      rw [hok]
      clear hok hnd
      generalize hj : (clF s wd i []).2.1 = j at *
      generalize hcl : (clF s wd i []).2.2 = cl at *
      obtain ⟨ca, cc, hcv⟩ := row_len hrow2
      subst hcv
      by_cases h59 : byte s (j) = 59
      · have HE : Hid (rowP s wd i = (true, j + 1, ⟨i, (-1 : Int), cl, cut s i (j)⟩)) := HOK.out h59
        have H59 : Hid (byte s (j) = 59) := h59
        have hin := sg_in s 59 _ (by decide) h59
        clear h59 HOK HNO
        obtain ⟨c0, c1, -⟩ := hp2.cells
        go_wp2_with fail
        go_big_quiet (fail)
        go_wp2_with fail
        refine (skip_yes _ b s 59 _ rfl _ (by exact Blk.drewN hp2 _) hs (by decide) H59.out).mono ?_
        rintro e w3 ⟨rfl, hp3, hf3⟩
        have hrb3 := Blk.fr (Blk.drewN hrb2 _) hf3 (by omega)
        have hfr3 := (hfr2.drewNr _).thenr hf3 (fun _ _ h => h)
        have hrow3 := row_fr (row_fr hrow2 (Fr.drewN (fun _ => False) w2 _) (fun _ _ h => h)) hf3 (fun j hj e => by have := hlo j hj; omega)
        clear hrb2 hfr2 hf3 hp2 c0 c1 hrow2
        have r0 : w3.cell? ⟨w.heap.size, 0, none⟩ = some (.int .i64 0) := by rw [Blk.cell hrb3]; rfl
        have r1 : w3.cell? ⟨w.heap.size, 1, none⟩ = some (.string ⟨#[]⟩) := by rw [Blk.cell hrb3]; rfl
        have r2 : w3.cell? ⟨w.heap.size, 2, none⟩ = some (.int .i64 0) := by rw [Blk.cell hrb3]; rfl
        have r3 : w3.cell? ⟨w.heap.size, 3, none⟩ = some (.slice none 0 0) := by rw [Blk.cell hrb3]; rfl
        have z0 := Blk.frozen hrb3 0
        have z1 := Blk.frozen hrb3 1
        have z2 := Blk.frozen hrb3 2
        have z3 := Blk.frozen hrb3 3
        go_wp2_with fail
        refine bodyPost_ret (v := .tuple #[.agg (RwH.pcells ⟨⟨i, (-1 : Int), cl, cut s i (j)⟩, .slice ca cl.length cc⟩).toArray, .bool true]) (by simp [results, Try.results91, go_sem, r0, r1, r2, r3, RwH.pcells, extract_cut, smQ]) rfl ⟨fun _ => ⟨.slice ca cl.length cc, ?_, ?_, hlo⟩, fun h => ?_, ?_, ?_⟩
        · rw [HE.out]
        · rw [HE.out]; exact row_fr hrow3 (fr4 (S := fun k => k = w.heap.size) (Fr.refl _ _) w.heap.size (Or.inl rfl) _ _ _ _) (fun k hk e => by have := hlo' k hk; omega)
        · rw [HE.out] at h; cases h
        · rw [HE.out]; exact blk4 hp3 _ (by omega) _ _ _ _
        · exact fr4 hfr3 _ (Or.inr (Nat.le_refl _)) _ _ _ _
      · have HE : Hid (rowP s wd i = (false, j, ⟨0, 0, [], ⟨#[]⟩⟩)) := HNO.out h59
        have H59 : Hid (byte s (j) ≠ 59) := h59
        clear h59 HOK HNO
        obtain ⟨c0, c1, -⟩ := hp2.cells
        go_wp2_with fail
        go_big_quiet (fail)
        go_wp2_with fail
        refine (skip_no _ b s 59 _ rfl _ (by exact Blk.drewN hp2 _) H59.out).mono ?_
        rintro e w3 ⟨rfl, hp3, hf3⟩
        have hrb3 := Blk.fr (Blk.drewN hrb2 _) hf3 (by omega)
        have hfr3 := (hfr2.drewNr _).thenr hf3 (fun _ _ h => h)
        clear hrb2 hfr2 hf3 hp2 c0 c1 hrow2
        have r0 : w3.cell? ⟨w.heap.size, 0, none⟩ = some (.int .i64 0) := by rw [Blk.cell hrb3]; rfl
        have r1 : w3.cell? ⟨w.heap.size, 1, none⟩ = some (.string ⟨#[]⟩) := by rw [Blk.cell hrb3]; rfl
        have r2 : w3.cell? ⟨w.heap.size, 2, none⟩ = some (.int .i64 0) := by rw [Blk.cell hrb3]; rfl
        have r3 : w3.cell? ⟨w.heap.size, 3, none⟩ = some (.slice none 0 0) := by rw [Blk.cell hrb3]; rfl
        have z0 := Blk.frozen hrb3 0
        have z1 := Blk.frozen hrb3 1
        have z2 := Blk.frozen hrb3 2
        have z3 := Blk.frozen hrb3 3
        go_wp2_with fail
        refine bodyPost_ret (v := .tuple #[.agg #[.int .i64 0, .string ⟨#[]⟩, .int .i64 0, .slice none 0 0], .bool false]) (by simp [results, Try.results91, go_sem, r0, r1, r2, r3]) rfl ⟨fun h => ?_, fun _ => rfl, ?_, ?_⟩
        · rw [HE.out] at h; cases h
        · rw [HE.out]; exact blk4 hp3 _ (by omega) _ _ _ _
        · exact fr4 hfr3 _ (Or.inr (Nat.le_refl _)) _ _ _ _
    · have hok' : (clF s wd i []).1 = false := by simpa using hok
      have HE : Hid (rowP s wd i = (false, (clF s wd i []).2.1, ⟨0, 0, [], ⟨#[]⟩⟩)) := by show _ = _; unfold rowP; simp only; rw [if_neg H61.out, if_pos hok']
      rw [hok']
      clear hok hok'
      generalize hj : (clF s wd i []).2.1 = j at *
      obtain ⟨ca, cc, hcv⟩ := row_len hrow2
      subst hcv
      obtain ⟨c0, c1, -⟩ := hp2.cells
      go_wp2_with fail
      go_big_quiet (fail)
      have r0 : w2.cell? ⟨w.heap.size, 0, none⟩ = some (.int .i64 0) := by rw [Blk.cell hrb2]; rfl
      have r1 : w2.cell? ⟨w.heap.size, 1, none⟩ = some (.string ⟨#[]⟩) := by rw [Blk.cell hrb2]; rfl
      have r2 : w2.cell? ⟨w.heap.size, 2, none⟩ = some (.int .i64 0) := by rw [Blk.cell hrb2]; rfl
      have r3 : w2.cell? ⟨w.heap.size, 3, none⟩ = some (.slice none 0 0) := by rw [Blk.cell hrb2]; rfl
      have z0 := Blk.frozen hrb2 0
      have z1 := Blk.frozen hrb2 1
      have z2 := Blk.frozen hrb2 2
      have z3 := Blk.frozen hrb2 3
      go_wp2_with fail
      refine bodyPost_ret (v := .tuple #[.agg #[.int .i64 0, .string ⟨#[]⟩, .int .i64 0, .slice none 0 0], .bool false]) (by simp [results, Try.results91, go_sem, r0, r1, r2, r3]) rfl ⟨fun h => ?_, fun _ => rfl, ?_, ?_⟩
      · rw [HE.out] at h; cases h
      · rw [HE.out]; exact blk4 (Blk.drewN hp2 _) _ (by omega) _ _ _ _
      · exact fr4 (hfr2.drewNr _) _ (Or.inr (Nat.le_refl _)) _ _ _ _
end Go.Proofs.Ytmolmbeeoecnfaa
