/- Own work: TR4, TD4. -/
import Derived.Test.YtmolmbeeoecnfaaGreatDoorF30
import Derived.Test.YtmolmbeeoecnfaaGreatDoorF31
/- Own work: walks of the program's table reader: readTable. -/
namespace Go.Proofs.YtmolmbeeoecnfaaGreatDoor
open Go.RowKit Go.BigFrame
set_option linter.unusedVariables false
set_option linter.unusedSimpArgs false

def OwnT (v : Value) (th : List RwH) (k : Nat) : Prop := v.ownBlock = some k ∨ ∃ t ∈ th, t.cv.ownBlock = some k
theorem fr3 {S : Nat → Prop} {a w : World} (h : Fr S a w) (q : Nat) (hq : S q ∨ a.heap.size ≤ q) (v0 v1 v2 : Value) : Fr S a (((w.setCell ⟨q, 0, none⟩ v0).setCell ⟨q, 1, none⟩ v1).setCell ⟨q, 2, none⟩ v2) :=
 ((h.setCellr ⟨q, 0, none⟩ _ hq).setCellr ⟨q, 1, none⟩ _ hq).setCellr ⟨q, 2, none⟩ _ hq

theorem elemDRow : ElemOk Tryz.prog 63 108 4 56 where
 ht := Tryz.underlying63
 info := by
  obtain ⟨i, h0, h1, h2, h3⟩ := info_parts (show (Tryz.prog.info? 108).map (fun i => (i.zero, i.size, i.bytes)) = some (some (.agg #[.int .i64 0, .int .i64 0, .slice none 0 0, .string ⟨#[]⟩]), 4, 56) by kernel_rfl)
  exact ⟨i, _, h0, h1, h2, h3, rfl⟩
 pos := by decide

structure DTbV (w : World) (v : Value) (th : List RwH) : Prop where
 r : w.ownsRow 0 108 4 v th.length (th.flatMap RwH.dcells)
 rc : ∀ t ∈ th, w.ownsRow 0 71 2 t.cv t.q.cells.length (t.q.cells.flatMap clD)
 nc : ∀ t ∈ th, Ap t.cv v
theorem DTbV.fr {S : Nat → Prop} {w w' : World} {v : Value} {th : List RwH} (h : DTbV w v th) (f : Fr S w w') (hS : ∀ k, OwnT v th k → ¬ S k) : DTbV w' v th where
 r := row_fr h.r f (fun k hk => hS k (Or.inl hk))
 rc := fun t ht => row_fr (h.rc t ht) f (fun k hk => hS k (Or.inr ⟨t, ht, hk⟩))
 nc := h.nc
theorem DTbV.nil (w : World) : DTbV w (.slice none 0 0) [] := ⟨World.ownsRow_nil w _ _ _, fun t ht => by simp at ht, fun t ht => by simp at ht⟩
theorem DTbV.push {w w1 : World} {v : Value} {th : List RwH} {x : RwH} {g c : Nat} (h : DTbV w v th) (hx : w.ownsRow 0 71 2 x.cv x.q.cells.length (x.q.cells.flatMap clD)) (ha : Ap x.cv v)
  (hr : w1.ownsRow 0 108 4 (.slice (some ⟨g, 0, none⟩) (th.length + 1) c) (th.length + 1) (th.flatMap RwH.dcells ++ x.dcells))
  (hg : w.grownBy w1 v.ownBlock) (hgo : v.ownBlock = some g ∨ w.heap.size ≤ g) :
  DTbV w1 (.slice (some ⟨g, 0, none⟩) (th.length + 1) c) (th ++ [x]) := by
 have f1 : Fr (fun j => v.ownBlock = some j) w w1 := Fr.grown _ hg (fun _ e => e)
 have key : ∀ t : RwH, w.ownsRow 0 71 2 t.cv t.q.cells.length (t.q.cells.flatMap clD) → Ap t.cv v → w1.ownsRow 0 71 2 t.cv t.q.cells.length (t.q.cells.flatMap clD) ∧ Ap t.cv (.slice (some ⟨g, 0, none⟩) (th.length + 1) c) := by
  intro t h1 h2
  refine ⟨row_fr h1 f1 (fun k hk e => h2 k hk e), fun k h3 h4 => ?_⟩
  simp only [Value.ownBlock, Option.some.injEq] at h4
  subst h4
  rcases hgo with e | e
  ·exact h2 g h3 e
  ·have := (h1.lt g h3).2; omega
 refine ⟨by simpa using hr, fun t ht => ?_, fun t ht => ?_⟩
 ·rcases List.mem_append.1 ht with ht | ht
  ·exact (key t (h.rc t ht) (h.nc t ht)).1
  ·simp only [List.mem_cons, List.not_mem_nil, or_false] at ht; subst ht; exact (key t hx ha).1
 ·rcases List.mem_append.1 ht with ht | ht
  ·exact (key t (h.rc t ht) (h.nc t ht)).2
  ·simp only [List.mem_cons, List.not_mem_nil, or_false] at ht; subst ht; exact (key t hx ha).2


def FmSt (s ev bg : ByteArray) (j : Nat) (bad : Int) (a : List Rw) : Prop :=
 (bad = -1 ∧ ev = cut s 0 (tev s) ∧ ((a = [] ∨ j < s.size) → formP s = ((rwL s (tev s) j a).1, (rwL s (tev s) j a).2.1, ⟨ev, bg, (rwL s (tev s) j a).2.2⟩)) ∧ (¬ (a = [] ∨ j < s.size) → formP s = (true, j, ⟨ev, bg, a⟩))) ∨
 (0 ≤ bad ∧ (formP s).1 = false ∧ ((formP s).2.1 : Int) = bad)

theorem fmSt_start (s : ByteArray) :
  FmSt s (cut s 0 (tev s)) (dgS s (tkI s 59 59 (tev s) (-1)) (tkB s 59 59 (tev s) (-1))) (tkI s 59 59 (dgI s (tkI s 59 59 (tev s) (-1)) (tkB s 59 59 (tev s) (-1))) (tkB s 59 59 (tev s) (-1))) (tkB s 59 59 (dgI s (tkI s 59 59 (tev s) (-1)) (tkB s 59 59 (tev s) (-1))) (tkB s 59 59 (tev s) (-1))) [] := by
 by_cases h1 : byte s (tev s) = 59
 ·have k1 : tkOk s 59 59 (tev s) = true := by rw [tkOk_1 s 59 _ (by decide)]; simp [h1]
  rw [show tkI s 59 59 (tev s) (-1) = tev s + 1 by simp [tkI, k1], show tkB s 59 59 (tev s) (-1) = -1 by simp [tkB, k1]]
  rw [show dgI s (tev s + 1) (-1) = tbg s by simp [dgI, tbg], show dgS s (tev s + 1) (-1) = cut s (tev s + 1) (tbg s) by simp [dgS, dgI, tbg]]
  by_cases h2 : byte s (tbg s) = 59
  ·have k2 : tkOk s 59 59 (tbg s) = true := by rw [tkOk_1 s 59 _ (by decide)]; simp [h2]
   rw [show tkI s 59 59 (tbg s) (-1) = tbg s + 1 by simp [tkI, k2], show tkB s 59 59 (tbg s) (-1) = -1 by simp [tkB, k2]]
   left
   refine ⟨rfl, rfl, fun _ => ?_, fun h => absurd (Or.inl rfl) h⟩
   unfold formP; simp only; rw [if_neg (fun h => h h1), if_neg (fun h => h h2)]
  ·have k2 : tkOk s 59 59 (tbg s) = false := by rw [tkOk_1 s 59 _ (by decide)]; simp [h2]
   right
   rw [show tkB s 59 59 (tbg s) (-1) = (tbg s : Int) by simp [tkB, k2]]
   have : formP s = (false, tbg s, ⟨⟨#[]⟩, ⟨#[]⟩, []⟩) := by unfold formP; simp only; rw [if_neg (fun h => h h1), if_pos h2]
   rw [this]
   exact ⟨by omega, rfl, rfl⟩
 ·have k1 : tkOk s 59 59 (tev s) = false := by rw [tkOk_1 s 59 _ (by decide)]; simp [h1]
  right
  have : formP s = (false, tev s, ⟨⟨#[]⟩, ⟨#[]⟩, []⟩) := by unfold formP; simp only; rw [if_pos h1]
  rw [this]
  have e : tkB s 59 59 (tev s) (-1) = (tev s : Int) := by simp [tkB, k1]
  rw [e]
  have hb : ¬ ((tev s : Int) < 0) := by omega
  simp [tkB]
theorem fmSt_ok (s ev bg : ByteArray) (j : Nat) (a : List Rw) (hj : j ≤ s.size) (h : FmSt s ev bg j (-1) a) (hc : a = [] ∨ j < s.size) (hr : (rowP s (tev s) j).1 = true) :
  FmSt s ev bg (rowP s (tev s) j).2.1 (-1) (a ++ [(rowP s (tev s) j).2.2]) := by
 rcases h with ⟨-, he, h1, -⟩ | ⟨h, -⟩
 ·left
  refine ⟨rfl, he, fun h2 => ?_, fun h2 => ?_⟩
  ·have h3 : (rowP s (tev s) j).2.1 < s.size := h2.resolve_left (by simp)
   rw [h1 hc, rwL_go s (tev s) j a hj hr h3]
  ·have h3 : ¬ (rowP s (tev s) j).2.1 < s.size := fun h => h2 (Or.inr h)
   rw [h1 hc, rwL_end s (tev s) j a hj hr h3]
 ·omega
theorem fmSt_no (s ev bg : ByteArray) (j : Nat) (a b : List Rw) (hj : j ≤ s.size) (h : FmSt s ev bg j (-1) a) (hc : a = [] ∨ j < s.size) (hr : (rowP s (tev s) j).1 = false) (j' : Nat) :
  FmSt s ev bg j' (rowP s (tev s) j).2.1 b := by
 rcases h with ⟨-, he, h1, -⟩ | ⟨h, -⟩
 ·right
  rw [h1 hc, rwL_bad s (tev s) j a hj hr]
  exact ⟨by omega, rfl, rfl⟩
 ·omega

def DfPost (s : ByteArray) (w : World) (e : Ending) (w' : World) : Prop :=
 Fr (fun _ => False) w w' ∧ ∃ ev bg va n vc, e = .returned (.tuple #[.agg #[.string ev, .string bg, .slice va n vc], .int .i64 (if (formP s).1 = true then -1 else ((formP s).2.1 : Int))]) ∧
  ((formP s).1 = true → ev = (formP s).2.2.events ∧ bg = (formP s).2.2.begin_ ∧ ∃ th, DTbV w' (.slice va n vc) th ∧ n = th.length ∧ th.map RwH.q = (formP s).2.2.rows ∧ ∀ k, OwnT (.slice va n vc) th k → w.heap.size ≤ k)

set_option maxRecDepth 100000 in
set_option maxHeartbeats 1000000 in
theorem form_any (w : World) (s : ByteArray) (hs : s.size ≤ 1000000) :
    Calls Tryz.prog 38 #[.string s] w (DfPost s w) := by
  have hQ := Blk.alloc (Blk.alloc (Blk.new w #[.string ⟨#[]⟩, .string ⟨#[]⟩, .slice none 0 0] 65) (.cells #[.string s, .int .i64 0, .int .i64 (-1), .slice none 0 0, .slice none 0 0, .slice none 0 0, .slice none 0 0] 91)) (.cells #[.string ⟨#[]⟩, .string ⟨#[]⟩, .slice none 0 0] 65)
  have hp : PenB (((w.alloc (.cells #[.string ⟨#[]⟩, .string ⟨#[]⟩, .slice none 0 0] 65)).alloc (.cells #[.string s, .int .i64 0, .int .i64 (-1), .slice none 0 0, .slice none 0 0, .slice none 0 0, .slice none 0 0] 91)).alloc (.cells #[.string ⟨#[]⟩, .string ⟨#[]⟩, .slice none 0 0] 65)) (w.heap.size + 1) s 0 (-1) (.slice none 0 0) (.slice none 0 0) (.slice none 0 0) (.slice none 0 0) := Blk.alloc (Blk.new' (w.alloc (.cells #[.string ⟨#[]⟩, .string ⟨#[]⟩, .slice none 0 0] 65)) #[.string s, .int .i64 0, .int .i64 (-1), .slice none 0 0, .slice none 0 0, .slice none 0 0, .slice none 0 0] 91 (w.heap.size + 1) (by simp)) _
  have hT := Blk.new' ((w.alloc (.cells #[.string ⟨#[]⟩, .string ⟨#[]⟩, .slice none 0 0] 65)).alloc (.cells #[.string s, .int .i64 0, .int .i64 (-1), .slice none 0 0, .slice none 0 0, .slice none 0 0, .slice none 0 0] 91)) #[.string ⟨#[]⟩, .string ⟨#[]⟩, .slice none 0 0] 65 (w.heap.size + 1 + 1) (by simp)
  have hfa : Fr (fun _ => False) w (((w.alloc (.cells #[.string ⟨#[]⟩, .string ⟨#[]⟩, .slice none 0 0] 65)).alloc (.cells #[.string s, .int .i64 0, .int .i64 (-1), .slice none 0 0, .slice none 0 0, .slice none 0 0, .slice none 0 0] 91)).alloc (.cells #[.string ⟨#[]⟩, .string ⟨#[]⟩, .slice none 0 0] 65)) := (((Fr.refl _ _).allocr _).allocr _).allocr _
  go_enter Tryz.func38, Tryz.ntmps38
  go_wp2_with fail
  generalize (((w.alloc (.cells #[.string ⟨#[]⟩, .string ⟨#[]⟩, .slice none 0 0] 65)).alloc (.cells #[.string s, .int .i64 0, .int .i64 (-1), .slice none 0 0, .slice none 0 0, .slice none 0 0, .slice none 0 0] 91)).alloc (.cells #[.string ⟨#[]⟩, .string ⟨#[]⟩, .slice none 0 0] 65)) = W at hQ hp hT hfa ⊢
  have hP1 : w.heap.size < w.heap.size + 1 := by omega
  generalize w.heap.size + 1 = P at hp hT hP1 ⊢
  have hT1 : P < P + 1 := by omega
  generalize P + 1 = T at hT hT1 ⊢
  refine (ahead_any _ P s 0 (-1) _ _ _ _ hp).mono ?_
  rintro e w1 ⟨rfl, n1, rfl⟩
  rw [show ahd s 0 (-1) = byte s 0 by simp [ahd]]
  go_wp2_with fail
  go_loopg [6, 7] (s.size + 1) (fun g vl vc wr => ∃ (k : Nat) (l : UInt8) (m : Nat), vl = .int .u8 m ∧ vc = .int .u8 (byte s k).toNat ∧ (m = 97 ∧ l = 0 ∨ m = l.toNat + 1 ∧ 97 ≤ l.toNat ∧ l.toNat ≤ 122) ∧ k ≤ s.size ∧ PenB wr P s k (-1) (.slice none 0 0) (.slice none 0 0) (.slice none 0 0) (.slice none 0 0) ∧ Blk wr T #[.string (cut s 0 k), .string ⟨#[]⟩, .slice none 0 0] 65 ∧ Blk wr w.heap.size #[.string ⟨#[]⟩, .string ⟨#[]⟩, .slice none 0 0] 65 ∧ Fr (fun _ => False) w wr ∧ Hid (tev s = evE s l k) ∧ s.size + 1 - k ≤ g)
  case atStart => exact ⟨0, 0, 97, rfl, rfl, Or.inl ⟨rfl, rfl⟩, Nat.zero_le _, Blk.drewN hp n1, (by rw [cut_self]; exact Blk.drewN hT n1), Blk.drewN hQ n1, hfa.drewNr n1, rfl, Nat.le_refl _⟩
  case round =>
    clear hp hT hQ hfa
    obtain ⟨k, l, m, rfl, rfl, hm, hk, hp, hT, hQ, hfr, HE, hg⟩ := hrel
    obtain ⟨c0, c1, c2, -, -, -, -, hfz⟩ := hp.cells
    have z1 := hfz 1
    have t0 : wr.cell? ⟨T, 0, none⟩ = some (.string (cut s 0 k)) := by rw [Blk.cell hT]; rfl
    have y0 := Blk.frozen hT 0
    have hPl := Blk.lt hp
    have hTl := Blk.lt hT
    have hPT : P ≠ T := by omega
    clear hfz
    by_cases hc : isE (byte s k) = true ∧ l < byte s k
    · have h1 := (isE_iff _).1 hc.1
      have h2 := UInt8.lt_iff_toNat_lt.1 hc.2
      obtain ⟨hks, hgo⟩ := evE_go s l k hc
      have HE2 : Hid (tev s = evE s (byte s k) (k + 1)) := HE.out.trans hgo
      have hge : (m : Int) ≤ (byte s k).toNat := by omega
      have hle : ((byte s k).toNat : Int) ≤ 122 := by omega
      have hlo : (97 : Int) ≤ (byte s k).toNat := by omega
      have HC : Hid _ := cut_snoc s 0 k (Nat.zero_le _) hks
      have hsz : (cut s 0 k).size ≤ 1000000 := by rw [cut_size s 0 k (Nat.zero_le _) hk]; omega
      clear hc h1 h2 hgo hm
      go_wp2_with fail
      refine (ahead_any _ P s (k + 1) (-1) _ _ _ _ (by exact Blk.alloc (Blk.set (Blk.other hp _ _ hPT) 1 _) _)).mono ?_
      rintro e w2 ⟨rfl, n2, rfl⟩
      rw [show ahd s (k + 1) (-1) = byte s (k + 1) by simp [ahd]]
      go_wp2_with fail
      go_roundg (s.size + 1 - (k + 1))
      case measure => omega
      case rel => exact ⟨k + 1, byte s k, (byte s k).toNat + 1, by go_num, rfl, Or.inr ⟨rfl, by omega, by omega⟩, by omega, Blk.drewN (Blk.alloc (Blk.set (Blk.other hp _ _ hPT) 1 _) _) n2, (by rw [HC.out]; exact Blk.drewN (Blk.alloc (Blk.other (Blk.set hT 0 _) _ _ (Ne.symm hPT)) _) n2), Blk.drewN (Blk.alloc (Blk.other (Blk.other hQ _ _ (by show w.heap.size ≠ T; omega)) _ _ (by show w.heap.size ≠ P; omega)) _) n2, (((hfr.setCellr _ _ (Or.inr (by show w.heap.size ≤ T; omega))).setCellr _ _ (Or.inr (by show w.heap.size ≤ P; omega))).allocr _).drewNr n2, HE2, Nat.le_refl _⟩
    · have HK : Hid (tev s = k) := HE.out.trans (evE_stop s l k hc)
      have hcase : (decide (m ≤ (byte s k).toNat) = false ∧ True) ∨ ((m : Int) ≤ (byte s k).toNat ∧ ¬ ((byte s k).toNat : Int) ≤ 122) := by
        by_cases h1 : m ≤ (byte s k).toNat
        · right
          refine ⟨by omega, fun h2 => hc ⟨(isE_iff _).2 (by omega), UInt8.lt_iff_toNat_lt.2 ?_⟩⟩
          rcases hm with ⟨rfl, rfl⟩ | h
          · show 0 < _; omega
          · omega
        · exact Or.inl ⟨decide_eq_false h1, trivial⟩
      have hk' := HK.out
      subst hk'
      clear hc HK hm HE
      rcases hcase with ⟨h1, h2⟩ | ⟨h1, h2⟩
      all_goals
        go_wp2_with fail
        clear h1 h2 c0 c1 c2 z1 t0 y0
        refine (take_at _ P s 59 59 59 59 rfl rfl (tev s) (-1) _ _ _ _ hp (by omega)).mono ?_
        rintro e w2 ⟨rfl, hp2, hf2⟩
        have hT2 := Blk.fr hT hf2 (by omega)
        have hQ2 := Blk.fr hQ hf2 (by omega)
        have hfr2 := hfr.thenr hf2 (fun i hi h => by omega)
        have hb1 := tkI_bd s 59 59 (tev s) (-1) hk
        clear hp hT hQ hfr hf2
        go_wp2_with fail
        refine (digits_any _ P s _ _ _ _ _ _ hp2 hs hb1.2).mono ?_
        rintro e w3 ⟨rfl, hp3, hf3⟩
        have hT3 := Blk.fr hT2 hf3 (by omega)
        have hQ3 := Blk.fr hQ2 hf3 (by omega)
        have hfr3 := hfr2.thenr hf3 (fun i hi h => by omega)
        have hb2 := dgI_bd s (tkI s 59 59 (tev s) (-1)) (tkB s 59 59 (tev s) (-1)) hb1.2
        have t1 : w3.cell? ⟨T, 1, none⟩ = some (.string ⟨#[]⟩) := by rw [Blk.cell hT3]; rfl
        have y1 := Blk.frozen hT3 1
        clear hp2 hT2 hQ2 hfr2 hf3
        have HF : Hid (FmSt s (cut s 0 (tev s)) (dgS s (tkI s 59 59 (tev s) (-1)) (tkB s 59 59 (tev s) (-1))) (tkI s 59 59 (dgI s (tkI s 59 59 (tev s) (-1)) (tkB s 59 59 (tev s) (-1))) (tkB s 59 59 (tev s) (-1))) (tkB s 59 59 (dgI s (tkI s 59 59 (tev s) (-1)) (tkB s 59 59 (tev s) (-1))) (tkB s 59 59 (tev s) (-1))) []) := fmSt_start s
        have hbad : tkB s 59 59 (tev s) (-1) = -1 ∨ 0 ≤ tkB s 59 59 (tev s) (-1) := by
          unfold tkB; split
          · omega
          · split
            · exact Or.inl rfl
            · exact Or.inr (by omega)
        generalize tkI s 59 59 (tev s) (-1) = j1 at *
        generalize tkB s 59 59 (tev s) (-1) = b1 at *
        generalize dgI s j1 b1 = j2 at *
        generalize dgS s j1 b1 = bg at *
        go_wp2_with fail
        have hp4 : PenB (w3.setCell ⟨T, 1, none⟩ (.string bg)) P s j2 b1 (.slice none 0 0) (.slice none 0 0) (.slice none 0 0) (.slice none 0 0) := Blk.other hp3 _ _ hPT
        have hT4 : Blk (w3.setCell ⟨T, 1, none⟩ (.string bg)) T #[.string (cut s 0 (tev s)), .string bg, .slice none 0 0] 65 := Blk.set hT3 1 _
        have hQ4 := Blk.other hQ3 ⟨T, 1, none⟩ (.string bg) (by show w.heap.size ≠ T; omega)
        have hfr4 := hfr3.setCellr ⟨T, 1, none⟩ (.string bg) (Or.inr (by show w.heap.size ≤ T; omega))
        generalize w3.setCell ⟨T, 1, none⟩ (.string bg) = W4 at hp4 hT4 hQ4 hfr4 ⊢
        clear hp3 hT3 hQ3 hfr3 t1 y1
        refine (take_at _ P s 59 59 59 59 rfl rfl j2 b1 _ _ _ _ hp4 (by omega)).mono ?_
        rintro e w5 ⟨rfl, hp5, hf5⟩
        have hT5 := Blk.fr hT4 hf5 (by omega)
        have hQ5 := Blk.fr hQ4 hf5 (by omega)
        have hfr5 := hfr4.thenr hf5 (fun i hi h => by omega)
        have hb3 := tkI_bd s 59 59 j2 b1 hb2.2
        have hbad2 : tkB s 59 59 j2 b1 = -1 ∨ 0 ≤ tkB s 59 59 j2 b1 := by
          unfold tkB; split
          · exact Or.inr ‹_›
          · split
            · exact hbad
            · exact Or.inr (by omega)
        generalize tkI s 59 59 j2 b1 = j3 at *
        generalize tkB s 59 59 j2 b1 = b3 at *
        clear hp4 hT4 hQ4 hfr4 hf5
        go_wp2_with fail
        have hevz : (cut s 0 (tev s)).size = tev s := by rw [cut_size s 0 _ (Nat.zero_le _) hk]; omega
        generalize cut s 0 (tev s) = ev at *
        have HEV : Hid (ev.size = tev s) := hevz
        have hevs : ev.size ≤ s.size := by omega
        clear hevz
        go_loopg [8] (s.size + 2) (fun gk v8 wr => ∃ (j : Nat) (bad : Int) (a : List Rw) (th : List RwH) (va : Option Addr) (vc n : Nat), PenB wr P s j bad (.slice none 0 0) (.slice none 0 0) (.slice none 0 0) (.slice none 0 0) ∧ (bad = -1 ∨ 0 ≤ bad) ∧ Blk wr T #[.string ev, .string bg, .slice va n vc] 65 ∧ Blk wr w.heap.size #[.string ⟨#[]⟩, .string ⟨#[]⟩, .slice none 0 0] 65 ∧ Fr (fun _ => False) w wr ∧ Hid (FmSt s ev bg j bad a) ∧ (bad = -1 → j ≤ s.size ∧ a.length ≤ j ∧ DTbV wr (.slice va n vc) th ∧ n = th.length ∧ th.map RwH.q = a ∧ (∀ q, OwnT (.slice va n vc) th q → T < q) ∧ s.size + 2 - j ≤ gk) ∧ n ≤ 1000000000)
        case atStart => exact ⟨j3, b3, [], [], none, 0, 0, hp5, hbad2, hT5, hQ5, hfr5, HF, (fun _ => ⟨by omega, Nat.zero_le _, DTbV.nil _, rfl, rfl, (by rintro j (h | ⟨t, ht, _⟩); simp [Value.ownBlock] at h; simp at ht), by omega⟩), by omega⟩
        case round =>
          clear hp5 hT5 hQ5 hfr5 HF hbad2
          obtain ⟨j, bad, a, th, va, vc, n, hpk, hbd, hT, hQ, hfr, HF, hgood, hnn⟩ := hrel
          have hPl := Blk.lt hpk
          have hTl := Blk.lt hT
          have hQl := Blk.lt hQ
          obtain ⟨c0, c1, c2, -⟩ := hpk.cells
          have t0 : wr.cell? ⟨T, 0, none⟩ = some (.string ev) := by rw [Blk.cell hT]; rfl
          have t1 : wr.cell? ⟨T, 1, none⟩ = some (.string bg) := by rw [Blk.cell hT]; rfl
          have t2 : wr.cell? ⟨T, 2, none⟩ = some (.slice va n vc) := by rw [Blk.cell hT]; rfl
          by_cases hb0 : 0 ≤ bad
          · have HE : Hid (formP s = (false, bad.toNat, (formP s).2.2)) := by
              show _ = _
              rcases HF.out with ⟨h, -⟩ | ⟨-, h1, h2⟩
              · omega
              · rw [← h1, show bad.toNat = (formP s).2.1 by omega]
            have HBD : Hid ((bad.toNat : Int) = bad) := by show _ = _; omega
            have hbd' : decide (bad < 0) = false := by simp; omega
            have q0 : wr.cell? ⟨w.heap.size, 0, none⟩ = some (.string ⟨#[]⟩) := by rw [Blk.cell hQ]; rfl
            have q1 : wr.cell? ⟨w.heap.size, 1, none⟩ = some (.string ⟨#[]⟩) := by rw [Blk.cell hQ]; rfl
            have q2 : wr.cell? ⟨w.heap.size, 2, none⟩ = some (.slice none 0 0) := by rw [Blk.cell hQ]; rfl
            have y0 := Blk.frozen hQ 0
            have y1 := Blk.frozen hQ 1
            have y2 := Blk.frozen hQ 2
            clear hgood
            go_wp2_with fail
            go_region
            all_goals
              go_wp2_with fail
              refine bodyPost_ret (v := .tuple #[.agg #[.string ev, .string bg, .slice va n vc], .int .i64 bad]) (by simp [results, Tryz.results38, go_sem, q0, q1, q2]) rfl ⟨?_, ev, bg, va, n, vc, ?_, ?_⟩
              · exact (fr3 hfr _ (Or.inr (Nat.le_refl _)) _ _ _).drewr
              · rw [HE.out, ← HBD.out]; rfl
              · rw [HE.out]; intro h; cases h
          · have hb1 : bad = -1 := by omega
            subst hb1
            obtain ⟨hj, haj, hV, rfl, hth, hlo, hgk⟩ := hgood rfl
            have HTH : Hid (th.map RwH.q = a) := hth
            have hthl : th.length = a.length := by rw [← hth]; simp
            have HTL : Hid (th.length = a.length) := hthl
            have hth1 : th.length ≤ 1000000 := by omega
            clear hth hthl hb0 hbd hgood
            by_cases hc : a = [] ∨ j < s.size
            · have hcase : ((th.length : Int) == 0) = true ∨ (((th.length : Int) == 0) = false ∧ (j : Int) < s.size) := by
                by_cases h0 : th.length = 0
                · left; rw [beq_iff_eq]; omega
                · right
                  refine ⟨by rw [beq_eq_false_iff_ne]; omega, ?_⟩
                  rcases hc with h | h
                  · rw [h] at HTL; exact absurd HTL.out h0
                  · omega
              have HC : Hid (a = [] ∨ j < s.size) := hc
              have HF0 : Hid _ := HF.out
              clear hc
              have hgo : ∀ (G : Prop), ((((th.length : Int) == 0) = true → G) ∧ ((((th.length : Int) == 0) = false ∧ (j : Int) < s.size) → G)) → G := fun G h => hcase.elim h.1 h.2
              rcases hcase with h1 | ⟨h1, h2⟩
              all_goals
                clear hgo
                go_wp2_with fail
                refine (row_any _ P s j ev.size _ _ _ _ hpk hs hj hevs).mono ?_
                rintro e w2 ⟨hyes, hno, hf2⟩
                have hrb := rowP_bd s ev.size j hj
                have hT2 := Blk.fr hT hf2 (by omega)
                have hQ2 := Blk.fr hQ hf2 (by omega)
                have hV2 := hV.fr hf2 (fun q hq e => by have := hlo q hq; omega)
                have hfr2 := hfr.thenr hf2 (fun i hi h => by omega)
                have hVr := hV.r
                have hsz2 := hf2.size
                have hT2l := Blk.lt hT2
                clear hT hQ hV hpk t0 t1 t2 c0 c1 c2 hfr
                have t0 : w2.cell? ⟨T, 0, none⟩ = some (.string ev) := by rw [Blk.cell hT2]; rfl
                have t1 : w2.cell? ⟨T, 1, none⟩ = some (.string bg) := by rw [Blk.cell hT2]; rfl
                have t2 : w2.cell? ⟨T, 2, none⟩ = some (.slice va th.length vc) := by rw [Blk.cell hT2]; rfl
                by_cases hok : (rowP s ev.size j).1 = true
                · obtain ⟨cv, he, hp2, hrowc, hloc⟩ := hyes hok
                  have hlt := hrb.2.2 hok
                  have hlocc : ∀ q, cv.ownBlock = some q → T < q := fun q hq => by have := hloc q hq; omega
                  have hap : Ap cv (.slice va th.length vc) := fun q h1 h2 => by have := hloc q h1; have := (hVr.lt q h2).2; omega
                  have HF2 : Hid (FmSt s ev bg (rowP s ev.size j).2.1 (-1) (a ++ [(rowP s ev.size j).2.2])) := by
                    have := fmSt_ok s ev bg j a hj HF.out HC.out (by rw [← HEV.out]; exact hok)
                    rw [← HEV.out] at this; exact this
                  have he' : e = .returned (.agg #[.int .i64 (rowP s ev.size j).2.2.at_, .int .i64 (rowP s ev.size j).2.2.same, cv, .string (dText (rowP s ev.size j).2.2)]) := he
                  clear he
                  subst he'
                  clear hyes hno hok HF HF0
                  generalize (rowP s ev.size j).2.2 = rx at *
                  generalize (rowP s ev.size j).2.1 = jx at *
                  obtain ⟨ca, cc, hcv⟩ := row_len hrowc
                  subst hcv
                  have hP2l := Blk.lt hp2
                  go_wp2_with (at_builtin; go_must (refine wpList_append1 rfl _ _ _ rfl _ 4 56 elemDRow _ th.length (th.flatMap RwH.dcells) rfl (by exact (hV2.r.alloc _).alloc _) ⟨w2.heap.size + 1, 0, none⟩ 1 (RwH.dcells ⟨rx, .slice ca rx.cells.length cc⟩) rfl rfl (by exact cells_new (Blk.new' _ _ _ _ (by simp))) (by intro u hu; simp [RwH.dcells] at hu; rcases hu with rfl | rfl | rfl | rfl <;> rfl) (by unfold maxLen; omega) (by omega) ?_); intro g cap w3 hrow3 hgrow hgo; have hG3 : Fr (fun j => (Value.slice va th.length vc).ownBlock = some j) _ w3 := Fr.grown (fun j => (Value.slice va th.length vc).ownBlock = some j) hgrow (fun _ e => e); have hp3 := Blk.fr (Blk.alloc (Blk.alloc hp2 _) _) hG3 (fun e => by have := hlo P (Or.inl e); omega); have hT3 := Blk.fr (Blk.alloc (Blk.alloc hT2 _) _) hG3 (fun e => by have := hlo _ (Or.inl e); omega); have hQ3 := Blk.fr (Blk.alloc (Blk.alloc hQ2 _) _) hG3 (fun e => by have := hlo _ (Or.inl e); omega); have m2 : w3.cell? ⟨T, 2, none⟩ = some (.slice va th.length vc) := by { rw [Blk.cell hT3]; rfl }; have mz := Blk.frozen hT3 2)
                  have hlo3 : ∀ q, OwnT (.slice (some ⟨g, 0, none⟩) (th.length + 1) cap) (th ++ [⟨rx, .slice ca rx.cells.length cc⟩]) q → T < q := by
                    rintro q (h | ⟨t, ht, h⟩)
                    · simp only [Value.ownBlock, Option.some.injEq] at h; subst h
                      rcases hgo with e | e
                      · exact hlo g (Or.inl e)
                      · simp at e; omega
                    · rcases List.mem_append.1 ht with ht | ht
                      · exact hlo q (Or.inr ⟨t, ht, h⟩)
                      · simp only [List.mem_cons, List.not_mem_nil, or_false] at ht; subst ht; exact hlocc q h
                  have hV3 := DTbV.push (x := ⟨rx, .slice ca rx.cells.length cc⟩) ((hV2.fr (Fr.alloc (fun _ => False) _ _) (fun _ _ h => h)).fr (Fr.alloc (fun _ => False) _ _) (fun _ _ h => h)) ((hrowc.alloc _).alloc _) hap hrow3 hgrow hgo
                  have hfr3 : Fr (fun _ => False) w w3 := ((hfr2.allocr _).allocr _).thenr hG3 (fun j hj e => by have := hlo j (Or.inl e); omega)
                  go_roundg (s.size + 2 - jx)
                  case measure => omega
                  case rel =>
                    refine ⟨jx, -1, a ++ [rx], th ++ [⟨rx, .slice ca rx.cells.length cc⟩], some ⟨g, 0, none⟩, cap, th.length + 1, Blk.other hp3 _ _ hPT, Or.inl rfl, Blk.set hT3 2 _, Blk.other hQ3 _ _ (by show w.heap.size ≠ T; omega), hfr3.setCellr _ _ (Or.inr (by show w.heap.size ≤ T; omega)), HF2, fun _ => ⟨by omega, by simp; omega, ?_, by simp, by rw [List.map_append, HTH.out]; rfl, hlo3, Nat.le_refl _⟩, by omega⟩
                    exact hV3.fr (S := fun x => x = T) (Fr.setCell _ _ _ _ rfl) (fun q hq e => by have := hlo3 q hq; omega)
                · have hok' : (rowP s ev.size j).1 = false := by simpa using hok
                  obtain ⟨at1, sm1, ca, n2, cc, tx, rfl, i', hp2⟩ := hno hok'
                  have HF2 : Hid (FmSt s ev bg i' (rowP s ev.size j).2.1 []) := by
                    have := fmSt_no s ev bg j a [] hj HF.out HC.out (by rw [← HEV.out]; exact hok') i'
                    rw [← HEV.out] at this; exact this
                  clear hyes hno hok hok' HF HF0
                  generalize (rowP s ev.size j).2.1 = jx at *
                  have hP2l := Blk.lt hp2
                  go_wp2_with (at_builtin; go_must (refine wpList_append1 rfl _ _ _ rfl _ 4 56 elemDRow _ th.length (th.flatMap RwH.dcells) rfl (by exact (hV2.r.alloc _).alloc _) ⟨w2.heap.size + 1, 0, none⟩ 1 ([.int .i64 at1, .int .i64 sm1, .slice ca n2 cc, .string tx]) rfl rfl (by exact cells_new (Blk.new' _ _ _ _ (by simp))) (by intro u hu; simp at hu; rcases hu with rfl | rfl | rfl | rfl <;> rfl) (by unfold maxLen; omega) (by omega) ?_); intro g cap w3 hrow3 hgrow hgo; have hG3 : Fr (fun j => (Value.slice va th.length vc).ownBlock = some j) _ w3 := Fr.grown (fun j => (Value.slice va th.length vc).ownBlock = some j) hgrow (fun _ e => e); have hp3 := Blk.fr (Blk.alloc (Blk.alloc hp2 _) _) hG3 (fun e => by have := hlo P (Or.inl e); omega); have hT3 := Blk.fr (Blk.alloc (Blk.alloc hT2 _) _) hG3 (fun e => by have := hlo _ (Or.inl e); omega); have hQ3 := Blk.fr (Blk.alloc (Blk.alloc hQ2 _) _) hG3 (fun e => by have := hlo _ (Or.inl e); omega); have m2 : w3.cell? ⟨T, 2, none⟩ = some (.slice va th.length vc) := by { rw [Blk.cell hT3]; rfl }; have mz := Blk.frozen hT3 2)
                  have hfr3 : Fr (fun _ => False) w w3 := ((hfr2.allocr _).allocr _).thenr hG3 (fun j hj e => by have := hlo j (Or.inl e); omega)
                  go_roundg 0
                  case measure => omega
                  case rel => exact ⟨i', jx, [], [], some ⟨g, 0, none⟩, cap, th.length + 1, Blk.other hp3 _ _ hPT, Or.inr (by omega), Blk.set hT3 2 _, Blk.other hQ3 _ _ (by show w.heap.size ≠ T; omega), hfr3.setCellr _ _ (Or.inr (by show w.heap.size ≤ T; omega)), HF2, fun h => (by omega), by omega⟩
            · have hne : ((th.length : Int) == 0) = false := by
                rw [beq_eq_false_iff_ne]; intro h
                exact hc (Or.inl (List.eq_nil_of_length_eq_zero (by have := HTL.out; omega)))
              have hjs : decide (j < s.size) = false := decide_eq_false (fun h => hc (Or.inr h))
              have HE : Hid (formP s = (true, j, ⟨ev, bg, a⟩)) := by
                rcases HF.out with ⟨-, -, -, h⟩ | ⟨h, -⟩
                · exact h hc
                · omega
              clear hc
              have q0 : wr.cell? ⟨w.heap.size, 0, none⟩ = some (.string ⟨#[]⟩) := by rw [Blk.cell hQ]; rfl
              have q1 : wr.cell? ⟨w.heap.size, 1, none⟩ = some (.string ⟨#[]⟩) := by rw [Blk.cell hQ]; rfl
              have q2 : wr.cell? ⟨w.heap.size, 2, none⟩ = some (.slice none 0 0) := by rw [Blk.cell hQ]; rfl
              have y0 := Blk.frozen hQ 0
              have y1 := Blk.frozen hQ 1
              have y2 := Blk.frozen hQ 2
              go_wp2_with fail
              go_region
              all_goals
                go_wp2_with fail
                refine bodyPost_ret (v := .tuple #[.agg #[.string ev, .string bg, .slice va th.length vc], .int .i64 (-1)]) (by simp [results, Tryz.results38, go_sem, q0, q1, q2]) rfl ⟨?_, ev, bg, va, th.length, vc, ?_, ?_⟩
                · exact (fr3 hfr _ (Or.inr (Nat.le_refl _)) _ _ _).drewr
                · rw [HE.out]; rfl
                · intro _
                  rw [HE.out]
                  refine ⟨rfl, rfl, th, ?_, rfl, HTH.out, fun q hq => by have := hlo q hq; omega⟩
                  exact (hV.fr (fr3 (S := fun x => x = w.heap.size) (Fr.refl _ _) w.heap.size (Or.inl rfl) _ _ _) (fun q hq e => by have := hlo q hq; omega)).fr (Fr.drew (fun _ => False) _) (fun _ _ h => h)
end Go.Proofs.YtmolmbeeoecnfaaGreatDoor
