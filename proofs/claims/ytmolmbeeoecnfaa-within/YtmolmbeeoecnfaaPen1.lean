/- Own work: walks of the document's reader: ahead, take, digits. -/
import Derived.Test.YtmolmbeeoecnfaaProg
import Derived.Test.YtmolmbeeoecnfaaBase
import Derived.Test.YtmolmbeeoecnfaaPure1
import Derived.WalkLawsBesides
import Derived.BigQuiet
namespace Go.Proofs.Ytmolmbeeoecnfaa
open Go.RowKit Go.BigFrame
set_option linter.unusedVariables false
set_option linter.unusedSimpArgs false

def PenB (w : World) (b : Nat) (s : ByteArray) (i : Nat) (bad : Int) (v3 v4 v5 v6 : Value) : Prop :=
  Blk w b #[.string s, .int .i64 i, .int .i64 bad, v3, v4, v5, v6] 89

theorem PenB.cells {w : World} {b : Nat} {s : ByteArray} {i : Nat} {bad : Int} {v3 v4 v5 v6 : Value} (h : PenB w b s i bad v3 v4 v5 v6) :
    w.cell? ⟨b, 0, none⟩ = some (.string s) ∧ w.cell? ⟨b, 1, none⟩ = some (.int .i64 i) ∧ w.cell? ⟨b, 2, none⟩ = some (.int .i64 bad) ∧
    w.cell? ⟨b, 3, none⟩ = some v3 ∧ w.cell? ⟨b, 4, none⟩ = some v4 ∧ w.cell? ⟨b, 5, none⟩ = some v5 ∧ w.cell? ⟨b, 6, none⟩ = some v6 ∧ ∀ o, w.frozen? ⟨b, o, none⟩ = false := by
  refine ⟨?_, ?_, ?_, ?_, ?_, ?_, ?_, Blk.frozen h⟩ <;> (rw [Blk.cell h]; rfl)

theorem conv_bytes (w : World) (n : Nat) (cs : List UInt8) (h : (loadCells ⟨n, 0, none⟩ cs.length).run Try.prog w = .ok ((cs.map fun c => ((c.toNat : Nat) : Int)).map (Value.int .u8)).toArray w) :
    Sem.run Try.prog (convert 43 9 (.slice (some ⟨n, 0, none⟩) cs.length cs.length)) w = .ok (.string ⟨cs.toArray⟩) w := by
  rw [run_convert_bytes_string w 43 9 5 _ _ _ Try.underlying43 Try.underlying5 Try.underlying9, run_bytesToString w _ _ _ _ h]
  congr 2
  have key : ∀ (l : List UInt8) (acc : ByteArray), (l.map fun c => ((c.toNat : Nat) : Int)).foldl (fun r n => r.push (UInt8.ofNat n.toNat)) acc = ⟨acc.data ++ l.toArray⟩ := by
    intro l
    induction l with
    | nil => intro acc; simp
    | cons c l ih => intro acc; simp only [List.map_cons, List.foldl_cons]; rw [ih]; simp [ByteArray.push]
  rw [key]
  exact congrArg ByteArray.mk (by rw [show ByteArray.empty.data = #[] from rfl, Array.empty_append])
@[go_sem] theorem conv_one (w : World) (c : UInt8) :
    Sem.run Try.prog (convert 43 9 (.slice (some ⟨w.heap.size, 0, none⟩) 1 1)) (w.alloc (.cells #[.int .u8 c.toNat] 5)) = .ok (.string ⟨#[c]⟩) (w.alloc (.cells #[.int .u8 c.toNat] 5)) :=
  conv_bytes _ _ [c] (by simp [loadCells, loadCellsFrom, go_sem])
@[go_sem] theorem conv_two (w : World) (c d : UInt8) :
    Sem.run Try.prog (convert 43 9 (.slice (some ⟨w.heap.size, 0, none⟩) 2 2)) (w.alloc (.cells #[.int .u8 c.toNat, .int .u8 d.toNat] 5)) = .ok (.string ⟨#[c, d]⟩) (w.alloc (.cells #[.int .u8 c.toNat, .int .u8 d.toNat] 5)) :=
  conv_bytes _ _ [c, d] (by simp [loadCells, loadCellsFrom, go_sem])

theorem ret_u8 {a b : UInt8} (h : a = b) : Ending.returned (.int .u8 a.toNat) = .returned (.int .u8 b.toNat) := by rw [h]
theorem ret_u8_0 {b : UInt8} (h : b = 0) : Ending.returned (.int .u8 0) = .returned (.int .u8 b.toNat) := by rw [h]; rfl

theorem ret_str {a b : ByteArray} (h : a = b) : Ending.returned (.string a) = .returned (.string b) := by rw [h]

/-- What the reader sees next. -/
def ahd (s : ByteArray) (i : Nat) (bad : Int) : UInt8 := if bad < 0 then byte s i else 0

set_option maxHeartbeats 400000 in
theorem ahead_any (w : World) (b : Nat) (s : ByteArray) (i : Nat) (bad : Int) (v3 v4 v5 v6 : Value) (hp : PenB w b s i bad v3 v4 v5 v6) :
    Calls Try.prog 59 #[.pointer (some ⟨b, 0, none⟩)] w fun e w' => e = .returned (.int .u8 (ahd s i bad).toNat) ∧ ∃ n, w' = w.drewN n := by
  obtain ⟨c0, c1, c2, -⟩ := hp.cells
  clear hp
  by_cases hb : bad < 0
  · by_cases hi : (i : Int) < s.size
    · have HE : Hid (ahd s i bad = s[i]) := by show _ = _; rw [ahd, if_pos hb, byte_in s i (by omega)]
      go_enter Try.func59, Try.ntmps59
      go_wp2_with fail
      go_big_quiet (fail)
      go_wp2_with fail
      go_big_quiet (fail)
      go_wp2_with fail
      go_ret
      exact ⟨ret_u8 HE.out.symm, _, World.drewN_drewN ..⟩
    · have hd : decide ((i : Int) < s.size) = false := by simpa using hi
      have HE : Hid (ahd s i bad = 0) := by show _ = _; rw [ahd, if_pos hb, byte_out s i (by omega)]
      go_enter Try.func59, Try.ntmps59
      go_wp2_with fail
      go_big_quiet (fail)
      go_wp2_with fail
      go_ret
      exact ⟨ret_u8_0 HE.out, _, rfl⟩
  · have hd : decide (bad < 0) = false := by simpa using hb
    have HE : Hid (ahd s i bad = 0) := by show _ = _; rw [ahd, if_neg hb]
    go_enter Try.func59, Try.ntmps59
    go_wp2_with fail
    go_big_quiet (fail)
    go_wp2_with fail
    go_ret
    exact ⟨ret_u8_0 HE.out, _, rfl⟩

/-- A byte from lo to hi stands at i. -/
def tkOk (s : ByteArray) (lo hi : UInt8) (i : Nat) : Bool := i < s.size && lo ≤ byte s i && byte s i ≤ hi
def tkC (s : ByteArray) (lo hi : UInt8) (i : Nat) (bad : Int) : UInt8 := if 0 ≤ bad then 0 else if tkOk s lo hi i then byte s i else 0
def tkI (s : ByteArray) (lo hi : UInt8) (i : Nat) (bad : Int) : Nat := if 0 ≤ bad then i else if tkOk s lo hi i then i + 1 else i
def tkB (s : ByteArray) (lo hi : UInt8) (i : Nat) (bad : Int) : Int := if 0 ≤ bad then bad else if tkOk s lo hi i then bad else i

set_option maxHeartbeats 400000 in
theorem take_any (w : World) (b : Nat) (s : ByteArray) (lo hi : UInt8) (i : Nat) (bad : Int) (v3 v4 v5 v6 : Value) (hp : PenB w b s i bad v3 v4 v5 v6) (hn : i ≤ 1000000) :
    Calls Try.prog 57 #[.pointer (some ⟨b, 0, none⟩), .int .u8 lo.toNat, .int .u8 hi.toNat] w fun e w' => e = .returned (.int .u8 (tkC s lo hi i bad).toNat) ∧
      PenB w' b s (tkI s lo hi i bad) (tkB s lo hi i bad) v3 v4 v5 v6 ∧ Fr (· = b) w w' := by
  obtain ⟨c0, c1, c2, -, -, -, -, hf⟩ := hp.cells
  have hf1 := hf 1
  have hf2 := hf 2
  clear hf
  by_cases hb : 0 ≤ bad
  · have hC : Hid (tkC s lo hi i bad = 0 ∧ tkI s lo hi i bad = i ∧ tkB s lo hi i bad = bad) := ⟨by simp [tkC, hb], by simp [tkI, hb], by simp [tkB, hb]⟩
    go_enter Try.func57, Try.ntmps57
    go_wp2_with fail
    go_ret
    obtain ⟨e1, e2, e3⟩ := hC.out
    exact ⟨ret_u8_0 e1, by rw [e2, e3]; exact hp, Fr.refl _ _⟩
  · have db : decide (0 ≤ bad) = false := by simpa using hb
    by_cases hi0 : (i : Int) < s.size
    · have hx : decide (s.size ≤ i) = false := by simp; omega
      have hi1 : i < s.size := by omega
      by_cases h1 : (s[i].toNat : Int) < lo.toNat
      · have hk : tkOk s lo hi i = false := by
          simp only [tkOk, byte_in s i hi1]
          have : ¬ lo ≤ s[i] := by rw [UInt8.le_iff_toNat_le]; omega
          simp [this]
        have hC : Hid (tkC s lo hi i bad = 0 ∧ tkI s lo hi i bad = i ∧ tkB s lo hi i bad = i) := ⟨by simp [tkC, hb, hk], by simp [tkI, hb, hk], by simp [tkB, hb, hk]⟩
        clear hk
        go_enter Try.func57, Try.ntmps57
        go_wp2_with fail
        go_big_quiet (fail)
        go_wp2_with fail
        go_ret
        obtain ⟨e1, e2, e3⟩ := hC.out
        refine ⟨ret_u8_0 e1, ?_, ?_⟩
        · rw [e2, e3]; exact Blk.set hp 2 _
        · exact by (repeat (first | exact Fr.refl _ _ | assumption | refine Fr.drewNr ?_ _ | refine Fr.drewr ?_ | refine Fr.allocr ?_ _ | refine Fr.setCellr ?_ _ _ (by first | exact Or.inl rfl | (right; simp; done) | (right; simp; omega))))
      · by_cases h2 : (hi.toNat : Int) < s[i].toNat
        · have hk : tkOk s lo hi i = false := by
            simp only [tkOk, byte_in s i hi1]
            have : ¬ s[i] ≤ hi := by rw [UInt8.le_iff_toNat_le]; omega
            simp [this]
          have hC : Hid (tkC s lo hi i bad = 0 ∧ tkI s lo hi i bad = i ∧ tkB s lo hi i bad = i) := ⟨by simp [tkC, hb, hk], by simp [tkI, hb, hk], by simp [tkB, hb, hk]⟩
          clear hk
          have d1 : decide (s[i].toNat < lo.toNat) = false := by simp; omega
          have d1' : decide (s[i] < lo) = false := by simp [UInt8.lt_iff_toNat_lt]; omega
          go_enter Try.func57, Try.ntmps57
          go_wp2_with fail
          go_big_quiet (fail)
          go_wp2_with fail
          go_ret
          obtain ⟨e1, e2, e3⟩ := hC.out
          refine ⟨ret_u8_0 e1, ?_, ?_⟩
          · rw [e2, e3]; exact Blk.set hp 2 _
          · exact by (repeat (first | exact Fr.refl _ _ | assumption | refine Fr.drewNr ?_ _ | refine Fr.drewr ?_ | refine Fr.allocr ?_ _ | refine Fr.setCellr ?_ _ _ (by first | exact Or.inl rfl | (right; simp; done) | (right; simp; omega))))
        · have hk : tkOk s lo hi i = true := by
            simp only [tkOk, byte_in s i hi1]
            have : lo ≤ s[i] := by rw [UInt8.le_iff_toNat_le]; omega
            have : s[i] ≤ hi := by rw [UInt8.le_iff_toNat_le]; omega
            simp [*]
          have hC : Hid (tkC s lo hi i bad = s[i] ∧ tkI s lo hi i bad = i + 1 ∧ tkB s lo hi i bad = bad) := ⟨by simp [tkC, hb, hk, byte_in s i hi1], by simp [tkI, hb, hk], by simp [tkB, hb, hk]⟩
          clear hk
          have d1 : decide (s[i].toNat < lo.toNat) = false := by simp; omega
          have d1' : decide (s[i] < lo) = false := by simp [UInt8.lt_iff_toNat_lt]; omega
          have d2 : decide (hi.toNat < s[i].toNat) = false := by simp; omega
          have d2' : decide (hi < s[i]) = false := by simp [UInt8.lt_iff_toNat_lt]; omega
          go_enter Try.func57, Try.ntmps57
          go_wp2_with fail
          go_big_quiet (fail)
          go_wp2_with fail
          go_big_quiet (fail)
          go_wp2_with fail
          go_ret
          obtain ⟨e1, e2, e3⟩ := hC.out
          refine ⟨ret_u8 e1.symm, ?_, ?_⟩
          · rw [e2, e3]; exact Blk.set hp 1 _
          · exact by (repeat (first | exact Fr.refl _ _ | assumption | refine Fr.drewNr ?_ _ | refine Fr.drewr ?_ | refine Fr.allocr ?_ _ | refine Fr.setCellr ?_ _ _ (by first | exact Or.inl rfl | (right; simp; done) | (right; simp; omega))))
    · have hk : tkOk s lo hi i = false := by simp only [tkOk]; have : ¬ i < s.size := by omega
                                             simp [this]
      have hC : Hid (tkC s lo hi i bad = 0 ∧ tkI s lo hi i bad = i ∧ tkB s lo hi i bad = i) := ⟨by simp [tkC, hb, hk], by simp [tkI, hb, hk], by simp [tkB, hb, hk]⟩
      clear hk
      have hx : s.size ≤ i := by omega
      go_enter Try.func57, Try.ntmps57
      go_wp2_with fail
      go_big_quiet (fail)
      go_wp2_with fail
      go_ret
      obtain ⟨e1, e2, e3⟩ := hC.out
      refine ⟨ret_u8_0 e1, ?_, ?_⟩
      · rw [e2, e3]; exact Blk.set hp 2 _
      · exact by (repeat (first | exact Fr.refl _ _ | assumption | refine Fr.drewNr ?_ _ | refine Fr.drewr ?_ | refine Fr.allocr ?_ _ | refine Fr.setCellr ?_ _ _ (by first | exact Or.inl rfl | (right; simp; done) | (right; simp; omega))))
end Go.Proofs.Ytmolmbeeoecnfaa
