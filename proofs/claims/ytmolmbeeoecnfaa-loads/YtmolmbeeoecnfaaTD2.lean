/- Own work: walks of the document's table reader: one cell, plainly; row. -/
import Derived.Test.YtmolmbeeoecnfaaTD1
import Derived.Test.YtmolmbeeoecnfaaTR3
namespace Go.Proofs.Ytmolmbeeoecnfaa
open Go.RowKit Go.BigFrame
set_option linter.unusedVariables false
set_option linter.unusedSimpArgs false

def nuV (s : ByteArray) (i : Nat) (bad : Int) : Nat := if 0 ≤ bad then 0 else if isD (byte s i) = true then nval s i else 0
def nuI (s : ByteArray) (i : Nat) (bad : Int) : Nat := if 0 ≤ bad then i else if isD (byte s i) = true then nend s i else i
def nuB (s : ByteArray) (i : Nat) (bad : Int) : Int := if 0 ≤ bad then bad else if isD (byte s i) = true then bad else i

theorem num_any (w : World) (b : Nat) (s : ByteArray) (i : Nat) (bad : Int) (v3 v4 v5 v6 : Value) (hp : PenB w b s i bad v3 v4 v5 v6) (hs : s.size ≤ 1000000) (hn : i ≤ s.size) (hb : bad = -1 ∨ 0 ≤ bad) :
    Calls Try.prog 94 #[.pointer (some ⟨b, 0, none⟩)] w fun e w' => e = .returned (.int .i64 (nuV s i bad)) ∧ PenB w' b s (nuI s i bad) (nuB s i bad) v3 v4 v5 v6 ∧ Fr (· = b) w w' := by
  by_cases h : 0 ≤ bad
  · rw [show nuV s i bad = 0 by simp [nuV, h], show nuI s i bad = i by simp [nuI, h], show nuB s i bad = bad by simp [nuB, h]]
    exact num_bad w b s i bad v3 v4 v5 v6 hp (by omega) h
  · have h1 : bad = -1 := by omega
    subst h1
    refine (num_good w b s i v3 v4 v5 v6 hp hs hn).mono ?_
    rintro e w1 ⟨hy, hno, hf⟩
    by_cases hd : isD (byte s i) = true
    · obtain ⟨rfl, hp1⟩ := hy hd
      rw [show nuV s i (-1) = nval s i by simp [nuV, hd], show nuI s i (-1) = nend s i by simp [nuI, hd], show nuB s i (-1) = -1 by simp [nuB, hd]]
      exact ⟨rfl, hp1, hf⟩
    · obtain ⟨rfl, hp1⟩ := hno (by simpa using hd)
      rw [show nuV s i (-1) = 0 by simp [nuV, hd], show nuI s i (-1) = i by simp [nuI, hd], show nuB s i (-1) = i by simp [nuB, hd]]
      exact ⟨rfl, hp1, hf⟩

/-- A cell, in whatever state. -/
def dcI (s : ByteArray) (i : Nat) (bad : Int) : Nat := dgI s (tkI s 58 58 (nuI s i bad) (nuB s i bad)) (tkB s 58 58 (nuI s i bad) (nuB s i bad))
def dcB (s : ByteArray) (i : Nat) (bad : Int) : Int := tkB s 58 58 (nuI s i bad) (nuB s i bad)
def dcC (s : ByteArray) (i : Nat) (bad : Int) : Cl := ⟨nuV s i bad, dgS s (tkI s 58 58 (nuI s i bad) (nuB s i bad)) (tkB s 58 58 (nuI s i bad) (nuB s i bad))⟩

theorem nuI_bd (s : ByteArray) (i : Nat) (bad : Int) (h : i ≤ s.size) : i ≤ nuI s i bad ∧ nuI s i bad ≤ s.size := by
  unfold nuI; split
  · omega
  · split
    · have := nend_bd s i ‹_›; omega
    · omega
theorem dcI_bd (s : ByteArray) (i : Nat) (bad : Int) (h : i ≤ s.size) : i ≤ dcI s i bad ∧ dcI s i bad ≤ s.size := by
  have h1 := nuI_bd s i bad h
  have h2 := tkI_bd s 58 58 (nuI s i bad) (nuB s i bad) h1.2
  have h3 := dgI_bd s (tkI s 58 58 (nuI s i bad) (nuB s i bad)) (tkB s 58 58 (nuI s i bad) (nuB s i bad)) h2.2
  unfold dcI; omega
theorem dc_bad (s : ByteArray) (i : Nat) (bad : Int) (h : 0 ≤ bad) : dcB s i bad = bad := by simp [dcB, nuB, tkB, h]
theorem dc_ok (s : ByteArray) (i : Nat) (h : (cellP s i).1 = true) : dcI s i (-1) = (cellP s i).2.1 ∧ dcB s i (-1) = -1 ∧ dcC s i (-1) = (cellP s i).2.2 := by
  revert h
  unfold cellP
  split
  · intro h; cases h
  · rename_i h1
    have hd : isD (byte s i) = true := by simpa using h1
    split
    · intro h; cases h
    · rename_i h2
      have h58 : byte s (nend s i) = 58 := by simpa using h2
      intro _
      have e1 : nuI s i (-1) = nend s i := by simp [nuI, hd]
      have e2 : nuB s i (-1) = -1 := by simp [nuB, hd]
      have e3 : tkOk s 58 58 (nend s i) = true := by rw [tkOk_1 s 58 _ (by decide)]; simp [h58]
      have e4 : tkI s 58 58 (nend s i) (-1) = nend s i + 1 := by simp [tkI, e3]
      have e5 : tkB s 58 58 (nend s i) (-1) = -1 := by simp [tkB, e3]
      have e6 : nuV s i (-1) = nval s i := by simp [nuV, hd]
      unfold dcI dcB dcC
      rw [e1, e2, e4, e5, e6]
      simp [dgI, dgS]
theorem dc_no (s : ByteArray) (i : Nat) (h : (cellP s i).1 = false) : dcB s i (-1) = (cellP s i).2.1 := by
  revert h
  unfold cellP
  split
  · rename_i h1
    intro _
    simp [dcB, nuI, nuB, h1, tkB]
  · rename_i h1
    have hd : isD (byte s i) = true := by simpa using h1
    split
    · rename_i h2
      intro _
      have e3 : tkOk s 58 58 (nend s i) = false := by rw [tkOk_1 s 58 _ (by decide)]; simpa using h2
      have e1 : nuI s i (-1) = nend s i := by simp [nuI, hd]
      have e2 : nuB s i (-1) = -1 := by simp [nuB, hd]
      unfold dcB
      rw [e1, e2]
      simp [tkB, e3]
    · intro h; cases h

/-- The state behind a comma, if one is asked for. -/
def cmI (s : ByteArray) (k i : Nat) : Nat := if k = 0 then i else tkI s 44 44 i (-1)
def cmB (s : ByteArray) (k i : Nat) : Int := if k = 0 then -1 else tkB s 44 44 i (-1)

/-- The state of the cells' loop: what it says of them all. -/
def ClSt (s : ByteArray) (wd i : Nat) (k j : Nat) (bad : Int) (a : List Cl) : Prop :=
  (bad = -1 ∧ a.length = k ∧ clF s wd i [] = clF s (wd - k) j a) ∨ (0 ≤ bad ∧ (clF s wd i []).1 = false ∧ ((clF s wd i []).2.1 : Int) = bad)

theorem clSt_step (s : ByteArray) (wd i k j : Nat) (a : List Cl) (hj : j ≤ s.size) (hk : k < wd) (h : ClSt s wd i k j (-1) a) :
    ClSt s wd i (k + 1) (dcI s (cmI s k j) (cmB s k j)) (dcB s (cmI s k j) (cmB s k j)) (a ++ [dcC s (cmI s k j) (cmB s k j)]) := by
  rcases h with ⟨-, hl, he⟩ | ⟨h0, -⟩
  · subst hl
    by_cases hc : a = [] ∨ byte s j = 44
    · have e1 : cmI s a.length j = clJ a j ∧ cmB s a.length j = -1 := by
        unfold cmI cmB clJ
        by_cases ha : a = []
        · subst ha; simp
        · have hl : a.length ≠ 0 := fun h => ha (List.eq_nil_of_length_eq_zero h)
          have h44 : byte s j = 44 := hc.resolve_left ha
          have hk1 : tkOk s 44 44 j = true := by rw [tkOk_1 s 44 _ (by decide)]; simp [h44]
          rw [if_neg hl, if_neg hl, if_neg ha]
          simp [tkI, tkB, hk1]
      rw [e1.1, e1.2]
      cases hok : (cellP s (clJ a j)).1
      · right
        have h1 := dc_no s _ hok
        have h2 := clF_bad s wd j a hk hc hok
        rw [h1, he, h2]
        exact ⟨by omega, rfl, rfl⟩
      · left
        obtain ⟨h1, h2, h3⟩ := dc_ok s _ hok
        rw [h1, h2, h3, he, clF_go s wd j a hk hc hok]
        exact ⟨rfl, by simp, by simp⟩
    · right
      have ha : a ≠ [] := fun h => hc (Or.inl h)
      have h44 : byte s j ≠ 44 := fun h => hc (Or.inr h)
      have hl : a.length ≠ 0 := fun h => ha (List.eq_nil_of_length_eq_zero h)
      have hk1 : tkOk s 44 44 j = false := by rw [tkOk_1 s 44 _ (by decide)]; simp [h44]
      have e2 : cmB s a.length j = j := by unfold cmB; rw [if_neg hl]; simp [tkB, hk1]
      rw [e2, dc_bad s _ _ (by omega), he, clF_no s wd j a hk ha h44]
      exact ⟨by omega, rfl, rfl⟩
  · omega

def clD (x : Cl) : List Value := [.int .i64 x.dst, .string x.acts]
theorem clD_len (x : Cl) : (clD x).length = 2 := rfl
theorem elemDCell : ElemOk Try.prog 61 64 2 24 where
  ht := Try.underlying61
  info := by
    obtain ⟨i, h0, h1, h2, h3⟩ := info_parts (show (Try.prog.info? 64).map (fun i => (i.zero, i.size, i.bytes)) = some (some (.agg #[.int .i64 0, .string ⟨#[]⟩]), 2, 24) by kernel_rfl)
    exact ⟨i, _, h0, h1, h2, h3, rfl⟩
  pos := by decide
def dText (q : Rw) : ByteArray := if q.same < 0 then q.text else ⟨#[]⟩
def RwH.dcells (x : RwH) : List Value := [.int .i64 x.q.at_, .int .i64 x.q.same, x.cv, .string (dText x.q)]
theorem RwH.dlen (x : RwH) : x.dcells.length = 4 := rfl

def DrPost (s : ByteArray) (b i wd : Nat) (v3 v4 v5 v6 : Value) (w : World) (e : Ending) (w' : World) : Prop :=
  ((rowP s wd i).1 = true → ∃ cv, e = .returned (.agg (RwH.dcells ⟨(rowP s wd i).2.2, cv⟩).toArray) ∧ PenB w' b s (rowP s wd i).2.1 (-1) v3 v4 v5 v6 ∧ w'.ownsRow 0 64 2 cv (rowP s wd i).2.2.cells.length ((rowP s wd i).2.2.cells.flatMap clD) ∧ (∀ k, cv.ownBlock = some k → w.heap.size ≤ k)) ∧
  ((rowP s wd i).1 = false → ∃ at_ sm ca n cc tx, e = .returned (.agg #[.int .i64 at_, .int .i64 sm, .slice ca n cc, .string tx]) ∧ ∃ i', PenB w' b s i' (rowP s wd i).2.1 v3 v4 v5 v6) ∧ Fr (· = b) w w'

end Go.Proofs.Ytmolmbeeoecnfaa
