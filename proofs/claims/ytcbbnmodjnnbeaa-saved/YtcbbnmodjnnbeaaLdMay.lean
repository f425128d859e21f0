/- Load: may a version be? -/
import Derived.Test.YtcbbnmodjnnbeaaLoadP
import Derived.Test.YtcbbnmodjnnbeaaPreds
import Derived.BigQuiet
set_option linter.unusedSimpArgs false
set_option linter.unusedVariables false
namespace Go.Proofs.Ytcbbnmodjnnbeaa
open Go.RowKit

set_option maxRecDepth 100000 in
set_option maxHeartbeats 8000000 in
theorem mayHave (w : World) (p r : Nat) (x : ByteArray × Ver) (hr : w.cell? ⟨p, 0, none⟩ = some (.int .i64 r)) (hp : p < w.heap.size) (hf : ∀ o, w.frozen? ⟨p, o, none⟩ = false) :
    Calls Try.prog 126 #[.pointer (some ⟨p, 0, none⟩), .string x.1, .agg #[.int .i64 x.2.rev, .string x.2.val, .bool x.2.gone]] w fun e w' => e = .returned (.bool (mayV r x)) ∧ Below w.heap.size w w' := by
  obtain ⟨k, n, v, g⟩ := x
  have hB : (v.toList == []) = noB v := by rw [← noB_isEmpty]; cases v.toList <;> rfl
  by_cases hg : g = true → noB v = true
  · have HM : Hid (mayV r (k, ⟨n, v, g⟩) = (keyB k && valB v && decide (1 ≤ n) && decide (n ≤ r))) := by
      show _ = _
      unfold mayV
      cases g
      · simp
      · simp [hg rfl]
    have hgv : (g && !noB v) = false := by cases g; · rfl
                                           · simp [hg rfl]
    have hgg : g = true → v.size = 0 := fun h => of_decide_eq_true (hg h)
    have HK : Hid (∀ W, Calls Try.prog 118 #[.string k] W fun e w' => e = .returned (.bool (keyB k)) ∧ w' = W) := fun W => checkKey k W
    have HV : Hid (∀ W, Calls Try.prog 119 #[.string v] W fun e w' => e = .returned (.bool (valB v)) ∧ w' = W) := fun W => checkValue v W
    clear hg
    generalize keyB k = kb at *
    generalize valB v = vb at *
    have HC : Hid ((kb = false ∨ kb = true) ∧ (vb = false ∨ vb = true) ∧ (1 ≤ n ∨ ¬ 1 ≤ n) ∧ (n ≤ r ∨ ¬ n ≤ r)) := ⟨by cases kb <;> simp, by cases vb <;> simp, Classical.em _, Classical.em _⟩
    cases g
    all_goals
      go_enter Try.func126, Try.ntmps126
      go_wp2_with fail
      rcases HC.out.1 with hk | hk <;> subst hk
      · go_quiet (first | exact Calls.quiet_of_same (HK.out _) | exact Calls.quiet_of_same (HV.out _))
        go_wp2_with fail
        go_ret
        rw [HM.out]
        exact ⟨ret_bool (by simp), (by repeat (first | exact Below.refl _ _ | assumption | with_reducible refine below_drewN ?_ _ | refine Gr.ext ?_ _ | refine Gr.alloc ?_ _ | refine Gr.drew ?_ | (refine Gr.set ?_ (by first | (simp; done) | (simp; omega)) _)))⟩
      · rcases HC.out.2.1 with hv | hv <;> subst hv
        · go_quiet (first | exact Calls.quiet_of_same (HK.out _) | exact Calls.quiet_of_same (HV.out _))
          go_wp2_with fail
          go_ret
          rw [HM.out]
          exact ⟨ret_bool (by simp), (by repeat (first | exact Below.refl _ _ | assumption | with_reducible refine below_drewN ?_ _ | refine Gr.ext ?_ _ | refine Gr.alloc ?_ _ | refine Gr.drew ?_ | (refine Gr.set ?_ (by first | (simp; done) | (simp; omega)) _)))⟩
        · rcases HC.out.2.2.1 with h1 | h1
          · rcases HC.out.2.2.2 with h2 | h2
            · have h1' : (1 : Int) ≤ n := by omega
              have h2' : (n : Int) ≤ r := by omega
              go_quiet (first | exact Calls.quiet_of_same (HK.out _) | exact Calls.quiet_of_same (HV.out _))
              go_wp2_with fail
              go_ret
              rw [HM.out]
              exact ⟨ret_bool (by simp [h1, h2]), (by repeat (first | exact Below.refl _ _ | assumption | with_reducible refine below_drewN ?_ _ | refine Gr.ext ?_ _ | refine Gr.alloc ?_ _ | refine Gr.drew ?_ | (refine Gr.set ?_ (by first | (simp; done) | (simp; omega)) _)))⟩
            · have h1' : (1 : Int) ≤ n := by omega
              have h2' : ¬ (n : Int) ≤ r := by omega
              go_quiet (first | exact Calls.quiet_of_same (HK.out _) | exact Calls.quiet_of_same (HV.out _))
              go_wp2_with fail
              go_ret
              rw [HM.out]
              exact ⟨ret_bool (by simp [h1, h2]), (by repeat (first | exact Below.refl _ _ | assumption | with_reducible refine below_drewN ?_ _ | refine Gr.ext ?_ _ | refine Gr.alloc ?_ _ | refine Gr.drew ?_ | (refine Gr.set ?_ (by first | (simp; done) | (simp; omega)) _)))⟩
          · have h1' : ¬ (1 : Int) ≤ n := by omega
            go_quiet (first | exact Calls.quiet_of_same (HK.out _) | exact Calls.quiet_of_same (HV.out _))
            go_wp2_with fail
            go_ret
            rw [HM.out]
            exact ⟨ret_bool (by simp [h1]), (by repeat (first | exact Below.refl _ _ | assumption | with_reducible refine below_drewN ?_ _ | refine Gr.ext ?_ _ | refine Gr.alloc ?_ _ | refine Gr.drew ?_ | (refine Gr.set ?_ (by first | (simp; done) | (simp; omega)) _)))⟩
  · obtain ⟨hg1, hg2⟩ := Classical.not_imp.1 hg
    subst hg1
    have hg3 : noB v = false := by cases h : noB v; · rfl
                                   · exact absurd h hg2
    have HM : Hid (mayV r (k, ⟨n, v, true⟩) = false) := by show _ = _; unfold mayV; simp [hg3]
    clear hg hg2
    go_enter Try.func126, Try.ntmps126
    go_wp2_with fail
    go_ret
    exact ⟨ret_bool HM.out.symm, (by repeat (first | exact Below.refl _ _ | assumption | with_reducible refine below_drewN ?_ _ | refine Gr.ext ?_ _ | refine Gr.alloc ?_ _ | refine Gr.drew ?_ | (refine Gr.set ?_ (by first | (simp; done) | (simp; omega)) _)))⟩
end Go.Proofs.Ytcbbnmodjnnbeaa
