/- Own work: walks of the program's Run. -/
import Derived.Test.YtmolmbeeoecnfaaTR8
namespace Go.Proofs.Ytmolmbeeoecnfaa
open Go.RowKit Go.BigFrame
set_option linter.unusedVariables false
set_option linter.unusedSimpArgs false

/-- What Run answers: what is put out, the row, the error, its place. -/
def runX (s es : ByteArray) : ByteArray × Nat × Int × Int :=
  if 400 < es.size then (⟨#[]⟩, 0, 1, 0)
  else if (ldE s).1 ≠ 0 then (⟨#[]⟩, 0, (ldE s).1, (ldE s).2)
  else ((runS (formP s).2.2.rows (formP s).2.2.events (formP s).2.2.begin_ es es.size).1, (runS (formP s).2.2.rows (formP s).2.2.events (formP s).2.2.begin_ es es.size).2, 0, 0)

set_option maxRecDepth 100000 in
set_option maxHeartbeats 1000000 in
theorem prun_any (w : World) (s es : ByteArray) (hm : s.size ≤ maxLen) (hme : es.size ≤ maxLen) :
    Calls Try.prog 26 #[.string s, .string es] w fun e w' => e = .returned (.tuple #[.string (runX s es).1, .int .i64 (runX s es).2.1, .int .i64 (runX s es).2.2.1, .int .i64 (runX s es).2.2.2]) ∧ Fr (fun _ => False) w w' := by
  have hme' := hme
  unfold maxLen at hme'
  by_cases hbig : (400 : Int) < es.size
  · have HE : Hid (runX s es = (⟨#[]⟩, 0, 1, 0)) := by show _ = _; rw [runX, if_pos (by omega)]
    go_enter Try.func26, Try.ntmps26
    go_wp2_with fail
    refine bodyPost_ret (v := .tuple #[.string ⟨#[]⟩, .int .i64 0, .int .i64 1, .int .i64 0]) (by simp [results, Try.results26, go_sem]) rfl ⟨by rw [HE.out]; rfl, by (repeat (first | exact Fr.refl _ _ | assumption | refine Fr.drewNr ?_ _ | refine Fr.drewr ?_ | refine Fr.allocr ?_ _ | refine Fr.setCellr ?_ _ _ (by first | exact Or.inl rfl | (right; simp; done) | (right; simp; omega))))⟩
  · have hd : decide ((400 : Int) < es.size) = false := by simpa using hbig
    have hes : es.size ≤ 400 := by omega
    go_enter Try.func26, Try.ntmps26
    go_wp2_with fail
    refine (load_any w s hm).mono ?_
    rintro e w1 ⟨ev, bg, va, n, vc, rfl, hfr, hyes⟩
    by_cases h0 : (ldE s).1 = 0
    · have HE : Hid (runX s es = ((runS (formP s).2.2.rows (formP s).2.2.events (formP s).2.2.begin_ es es.size).1, (runS (formP s).2.2.rows (formP s).2.2.events (formP s).2.2.begin_ es es.size).2, 0, 0)) := by
        show _ = _; rw [runX, if_neg (by omega), if_neg (fun h => h h0)]
      obtain ⟨rfl, rfl, hs6, hK, h99, hrg, th, hV, rfl, hth, hlo⟩ := hyes h0
      have HOK : Hid (TbOk (th.map RwH.q) (formP s).2.2.events.size s.size) := by
        show TbOk _ _ _
        rw [hth]
        exact tbOk_of s hK h99 (fun i => by rw [← rgB_sdB _ (form_ok s) h99]; exact hrg i)
      have HBG : Hid _ := form_bg s
      have HEV : Hid _ := form_ev s
      have HTH : Hid (th.map RwH.q = (formP s).2.2.rows) := hth
      rw [← hth] at HE
      rw [h0]
      clear hyes hrg hth h0
      generalize (formP s).2.2.events = ev at *
      generalize (formP s).2.2.begin_ = bg at *
      have hevs : ev.size ≤ 600000 := by have := HEV.out; omega
      have hbgs : bg.size ≤ 600000 := by have := HBG.out; omega
      go_wp2_with fail
      refine (play_any _ ev bg es _ th (hV.fr (Fr.alloc (fun _ => False) _ _) (fun _ _ h => h)) s.size HOK.out hs6 hbgs hes hevs).mono ?_
      rintro e w2 ⟨rfl, hf2⟩
      have HR : Hid _ := HE.out
      clear HE
      go_wp2_with fail
      refine bodyPost_ret (v := .tuple #[.string (runS (th.map RwH.q) ev bg es es.size).1, .int .i64 (runS (th.map RwH.q) ev bg es es.size).2, .int .i64 0, .int .i64 0]) (by simp [results, Try.results26, go_sem]) rfl ⟨by rw [HR.out], (hfr.allocr _).thenr hf2 (fun _ _ h => h)⟩
    · have HE : Hid (runX s es = (⟨#[]⟩, 0, (ldE s).1, (ldE s).2)) := by
        show _ = _; rw [runX, if_neg (by omega), if_pos h0]
      have hne : ((ldE s).1 != 0) = true := by rw [bne_iff_ne]; exact h0
      clear hyes h0
      go_wp2_with fail
      refine bodyPost_ret (v := .tuple #[.string ⟨#[]⟩, .int .i64 0, .int .i64 (ldE s).1, .int .i64 (ldE s).2]) (by simp [results, Try.results26, go_sem]) rfl ⟨by rw [HE.out]; rfl, by (repeat (first | exact Fr.refl _ _ | assumption | refine Fr.drewNr ?_ _ | refine Fr.drewr ?_ | refine Fr.allocr ?_ _ | refine Fr.setCellr ?_ _ _ (by first | exact Or.inl rfl | (right; simp; done) | (right; simp; omega))))⟩
end Go.Proofs.Ytmolmbeeoecnfaa
