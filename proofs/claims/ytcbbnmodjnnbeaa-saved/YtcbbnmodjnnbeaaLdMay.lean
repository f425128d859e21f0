/- Load: may a version be? -/
import Derived.Test.YtcbbnmodjnnbeaaLoadP
import Derived.Test.YtcbbnmodjnnbeaaPreds
set_option linter.unusedSimpArgs false
set_option linter.unusedVariables false
namespace Go.Proofs.Ytcbbnmodjnnbeaa
open Go.RowKit

variable (w : World) (p r n : Nat) (k v : ByteArray) (g : Bool) (hr : w.cell? ⟨p, 0, none⟩ = some (.int .i64 r)) (hp : p < w.heap.size) (hf : ∀ o, w.frozen? ⟨p, o, none⟩ = false) (hB : (v.toList == []) = noB v) (hgv : (g && !noB v) = false) (hgg : g = true → v.size = 0)
include hr hp hf hB hgv hgg in
set_option maxRecDepth 100000 in
set_option maxHeartbeats 8000000 in
theorem mayA (vb : Bool) (HK : Hid (∀ W, Calls Try.prog 118 #[.string k] W fun e w' => e = .returned (.bool false) ∧ Below W.heap.size W w')) (HV : Hid (∀ W, Calls Try.prog 119 #[.string v] W fun e w' => e = .returned (.bool vb) ∧ Below W.heap.size W w'))  :
    Calls Try.prog 126 #[.pointer (some ⟨p, 0, none⟩), .string k, .agg #[.int .i64 n, .string v, .bool g]] w fun e w' => e = .returned (.bool false) ∧ Below w.heap.size w w' := by
  cases g
  · as_aux_lemma =>
    go_enter Try.func126, Try.ntmps126
    go_wp2_with fail
    refine wp_region_grows (by kernel_rfl) (by kernel_rfl) ?_
    repeat (first | quiet_step (fail) | (refine wpQuiet_step (fun K hK => ?_); go_simp; simp only [↓IntWalk.iteOmega]; go_simp; refine hK _ ?_; clear hK K))
    quiet_step (exact Calls.grows (HK.out _))
    repeat (first | quiet_step (fail) | (refine wpQuiet_step (fun K hK => ?_); go_simp; simp only [↓IntWalk.iteOmega]; go_simp; refine hK _ ?_; clear hK K))
    try quiet_step (exact Calls.grows (HV.out _))
    repeat (first | quiet_step (fail) | (refine wpQuiet_step (fun K hK => ?_); go_simp; simp only [↓IntWalk.iteOmega]; go_simp; refine hK _ ?_; clear hK K))
    refine wpQuiet_nil ?_
    rintro _ ⟨x, rfl⟩
    go_wp2_with fail
    go_ret
    exact ⟨rfl, (by repeat (first | exact Below.refl _ _ | assumption | with_reducible refine below_drewN ?_ _ | refine Gr.ext ?_ _ | refine Gr.alloc ?_ _ | refine Gr.drew ?_ | (refine Gr.set ?_ (by first | (simp; done) | (simp; omega)) _)))⟩
  · as_aux_lemma =>
    go_enter Try.func126, Try.ntmps126
    go_wp2_with fail
    refine wp_region_grows (by kernel_rfl) (by kernel_rfl) ?_
    repeat (first | quiet_step (fail) | (refine wpQuiet_step (fun K hK => ?_); go_simp; simp only [↓IntWalk.iteOmega]; go_simp; refine hK _ ?_; clear hK K))
    quiet_step (exact Calls.grows (HK.out _))
    repeat (first | quiet_step (fail) | (refine wpQuiet_step (fun K hK => ?_); go_simp; simp only [↓IntWalk.iteOmega]; go_simp; refine hK _ ?_; clear hK K))
    try quiet_step (exact Calls.grows (HV.out _))
    repeat (first | quiet_step (fail) | (refine wpQuiet_step (fun K hK => ?_); go_simp; simp only [↓IntWalk.iteOmega]; go_simp; refine hK _ ?_; clear hK K))
    refine wpQuiet_nil ?_
    rintro _ ⟨x, rfl⟩
    go_wp2_with fail
    go_ret
    exact ⟨rfl, (by repeat (first | exact Below.refl _ _ | assumption | with_reducible refine below_drewN ?_ _ | refine Gr.ext ?_ _ | refine Gr.alloc ?_ _ | refine Gr.drew ?_ | (refine Gr.set ?_ (by first | (simp; done) | (simp; omega)) _)))⟩
include hr hp hf hB hgv hgg in
set_option maxRecDepth 100000 in
set_option maxHeartbeats 8000000 in
theorem mayB  (HK : Hid (∀ W, Calls Try.prog 118 #[.string k] W fun e w' => e = .returned (.bool true) ∧ Below W.heap.size W w')) (HV : Hid (∀ W, Calls Try.prog 119 #[.string v] W fun e w' => e = .returned (.bool false) ∧ Below W.heap.size W w'))  :
    Calls Try.prog 126 #[.pointer (some ⟨p, 0, none⟩), .string k, .agg #[.int .i64 n, .string v, .bool g]] w fun e w' => e = .returned (.bool false) ∧ Below w.heap.size w w' := by
  cases g
  · as_aux_lemma =>
    go_enter Try.func126, Try.ntmps126
    go_wp2_with fail
    refine wp_region_grows (by kernel_rfl) (by kernel_rfl) ?_
    repeat (first | quiet_step (fail) | (refine wpQuiet_step (fun K hK => ?_); go_simp; simp only [↓IntWalk.iteOmega]; go_simp; refine hK _ ?_; clear hK K))
    quiet_step (exact Calls.grows (HK.out _))
    repeat (first | quiet_step (fail) | (refine wpQuiet_step (fun K hK => ?_); go_simp; simp only [↓IntWalk.iteOmega]; go_simp; refine hK _ ?_; clear hK K))
    try quiet_step (exact Calls.grows (HV.out _))
    repeat (first | quiet_step (fail) | (refine wpQuiet_step (fun K hK => ?_); go_simp; simp only [↓IntWalk.iteOmega]; go_simp; refine hK _ ?_; clear hK K))
    refine wpQuiet_nil ?_
    rintro _ ⟨x, rfl⟩
    go_wp2_with fail
    go_ret
    exact ⟨rfl, (by repeat (first | exact Below.refl _ _ | assumption | with_reducible refine below_drewN ?_ _ | refine Gr.ext ?_ _ | refine Gr.alloc ?_ _ | refine Gr.drew ?_ | (refine Gr.set ?_ (by first | (simp; done) | (simp; omega)) _)))⟩
  · as_aux_lemma =>
    go_enter Try.func126, Try.ntmps126
    go_wp2_with fail
    refine wp_region_grows (by kernel_rfl) (by kernel_rfl) ?_
    repeat (first | quiet_step (fail) | (refine wpQuiet_step (fun K hK => ?_); go_simp; simp only [↓IntWalk.iteOmega]; go_simp; refine hK _ ?_; clear hK K))
    quiet_step (exact Calls.grows (HK.out _))
    repeat (first | quiet_step (fail) | (refine wpQuiet_step (fun K hK => ?_); go_simp; simp only [↓IntWalk.iteOmega]; go_simp; refine hK _ ?_; clear hK K))
    try quiet_step (exact Calls.grows (HV.out _))
    repeat (first | quiet_step (fail) | (refine wpQuiet_step (fun K hK => ?_); go_simp; simp only [↓IntWalk.iteOmega]; go_simp; refine hK _ ?_; clear hK K))
    refine wpQuiet_nil ?_
    rintro _ ⟨x, rfl⟩
    go_wp2_with fail
    go_ret
    exact ⟨rfl, (by repeat (first | exact Below.refl _ _ | assumption | with_reducible refine below_drewN ?_ _ | refine Gr.ext ?_ _ | refine Gr.alloc ?_ _ | refine Gr.drew ?_ | (refine Gr.set ?_ (by first | (simp; done) | (simp; omega)) _)))⟩
include hr hp hf hB hgv hgg in
set_option maxRecDepth 100000 in
set_option maxHeartbeats 8000000 in
theorem mayC  (HK : Hid (∀ W, Calls Try.prog 118 #[.string k] W fun e w' => e = .returned (.bool true) ∧ Below W.heap.size W w')) (HV : Hid (∀ W, Calls Try.prog 119 #[.string v] W fun e w' => e = .returned (.bool true) ∧ Below W.heap.size W w')) (h1 : ¬ (1 : Int) ≤ n) :
    Calls Try.prog 126 #[.pointer (some ⟨p, 0, none⟩), .string k, .agg #[.int .i64 n, .string v, .bool g]] w fun e w' => e = .returned (.bool false) ∧ Below w.heap.size w w' := by
  cases g
  · as_aux_lemma =>
    go_enter Try.func126, Try.ntmps126
    go_wp2_with fail
    refine wp_region_grows (by kernel_rfl) (by kernel_rfl) ?_
    repeat (first | quiet_step (fail) | (refine wpQuiet_step (fun K hK => ?_); go_simp; simp only [↓IntWalk.iteOmega]; go_simp; refine hK _ ?_; clear hK K))
    quiet_step (exact Calls.grows (HK.out _))
    repeat (first | quiet_step (fail) | (refine wpQuiet_step (fun K hK => ?_); go_simp; simp only [↓IntWalk.iteOmega]; go_simp; refine hK _ ?_; clear hK K))
    try quiet_step (exact Calls.grows (HV.out _))
    repeat (first | quiet_step (fail) | (refine wpQuiet_step (fun K hK => ?_); go_simp; simp only [↓IntWalk.iteOmega]; go_simp; refine hK _ ?_; clear hK K))
    refine wpQuiet_nil ?_
    rintro _ ⟨x, rfl⟩
    go_wp2_with fail
    go_ret
    exact ⟨rfl, (by repeat (first | exact Below.refl _ _ | assumption | with_reducible refine below_drewN ?_ _ | refine Gr.ext ?_ _ | refine Gr.alloc ?_ _ | refine Gr.drew ?_ | (refine Gr.set ?_ (by first | (simp; done) | (simp; omega)) _)))⟩
  · as_aux_lemma =>
    go_enter Try.func126, Try.ntmps126
    go_wp2_with fail
    refine wp_region_grows (by kernel_rfl) (by kernel_rfl) ?_
    repeat (first | quiet_step (fail) | (refine wpQuiet_step (fun K hK => ?_); go_simp; simp only [↓IntWalk.iteOmega]; go_simp; refine hK _ ?_; clear hK K))
    quiet_step (exact Calls.grows (HK.out _))
    repeat (first | quiet_step (fail) | (refine wpQuiet_step (fun K hK => ?_); go_simp; simp only [↓IntWalk.iteOmega]; go_simp; refine hK _ ?_; clear hK K))
    try quiet_step (exact Calls.grows (HV.out _))
    repeat (first | quiet_step (fail) | (refine wpQuiet_step (fun K hK => ?_); go_simp; simp only [↓IntWalk.iteOmega]; go_simp; refine hK _ ?_; clear hK K))
    refine wpQuiet_nil ?_
    rintro _ ⟨x, rfl⟩
    go_wp2_with fail
    go_ret
    exact ⟨rfl, (by repeat (first | exact Below.refl _ _ | assumption | with_reducible refine below_drewN ?_ _ | refine Gr.ext ?_ _ | refine Gr.alloc ?_ _ | refine Gr.drew ?_ | (refine Gr.set ?_ (by first | (simp; done) | (simp; omega)) _)))⟩
include hr hp hf hB hgv hgg in
set_option maxRecDepth 100000 in
set_option maxHeartbeats 8000000 in
theorem mayD  (HK : Hid (∀ W, Calls Try.prog 118 #[.string k] W fun e w' => e = .returned (.bool true) ∧ Below W.heap.size W w')) (HV : Hid (∀ W, Calls Try.prog 119 #[.string v] W fun e w' => e = .returned (.bool true) ∧ Below W.heap.size W w')) (h1 : (1 : Int) ≤ n) (h2 : ¬ (n : Int) ≤ r) :
    Calls Try.prog 126 #[.pointer (some ⟨p, 0, none⟩), .string k, .agg #[.int .i64 n, .string v, .bool g]] w fun e w' => e = .returned (.bool false) ∧ Below w.heap.size w w' := by
  cases g
  · as_aux_lemma =>
    go_enter Try.func126, Try.ntmps126
    go_wp2_with fail
    refine wp_region_grows (by kernel_rfl) (by kernel_rfl) ?_
    repeat (first | quiet_step (fail) | (refine wpQuiet_step (fun K hK => ?_); go_simp; simp only [↓IntWalk.iteOmega]; go_simp; refine hK _ ?_; clear hK K))
    quiet_step (exact Calls.grows (HK.out _))
    repeat (first | quiet_step (fail) | (refine wpQuiet_step (fun K hK => ?_); go_simp; simp only [↓IntWalk.iteOmega]; go_simp; refine hK _ ?_; clear hK K))
    try quiet_step (exact Calls.grows (HV.out _))
    repeat (first | quiet_step (fail) | (refine wpQuiet_step (fun K hK => ?_); go_simp; simp only [↓IntWalk.iteOmega]; go_simp; refine hK _ ?_; clear hK K))
    refine wpQuiet_nil ?_
    rintro _ ⟨x, rfl⟩
    go_wp2_with fail
    go_ret
    refine ⟨?_, (by repeat (first | exact Below.refl _ _ | assumption | with_reducible refine below_drewN ?_ _ | refine Gr.ext ?_ _ | refine Gr.alloc ?_ _ | refine Gr.drew ?_ | (refine Gr.set ?_ (by first | (simp; done) | (simp; omega)) _)))⟩
    show Ending.returned (Value.bool (decide (n ≤ r))) = _
    exact ret_bool (decide_eq_false (by omega))
  · as_aux_lemma =>
    go_enter Try.func126, Try.ntmps126
    go_wp2_with fail
    refine wp_region_grows (by kernel_rfl) (by kernel_rfl) ?_
    repeat (first | quiet_step (fail) | (refine wpQuiet_step (fun K hK => ?_); go_simp; simp only [↓IntWalk.iteOmega]; go_simp; refine hK _ ?_; clear hK K))
    quiet_step (exact Calls.grows (HK.out _))
    repeat (first | quiet_step (fail) | (refine wpQuiet_step (fun K hK => ?_); go_simp; simp only [↓IntWalk.iteOmega]; go_simp; refine hK _ ?_; clear hK K))
    try quiet_step (exact Calls.grows (HV.out _))
    repeat (first | quiet_step (fail) | (refine wpQuiet_step (fun K hK => ?_); go_simp; simp only [↓IntWalk.iteOmega]; go_simp; refine hK _ ?_; clear hK K))
    refine wpQuiet_nil ?_
    rintro _ ⟨x, rfl⟩
    go_wp2_with fail
    go_ret
    refine ⟨?_, (by repeat (first | exact Below.refl _ _ | assumption | with_reducible refine below_drewN ?_ _ | refine Gr.ext ?_ _ | refine Gr.alloc ?_ _ | refine Gr.drew ?_ | (refine Gr.set ?_ (by first | (simp; done) | (simp; omega)) _)))⟩
    show Ending.returned (Value.bool (decide (n ≤ r))) = _
    exact ret_bool (decide_eq_false (by omega))
include hr hp hf hB hgv hgg in
set_option maxRecDepth 100000 in
set_option maxHeartbeats 8000000 in
theorem mayE  (HK : Hid (∀ W, Calls Try.prog 118 #[.string k] W fun e w' => e = .returned (.bool true) ∧ Below W.heap.size W w')) (HV : Hid (∀ W, Calls Try.prog 119 #[.string v] W fun e w' => e = .returned (.bool true) ∧ Below W.heap.size W w')) (h1 : (1 : Int) ≤ n) (h2 : (n : Int) ≤ r) :
    Calls Try.prog 126 #[.pointer (some ⟨p, 0, none⟩), .string k, .agg #[.int .i64 n, .string v, .bool g]] w fun e w' => e = .returned (.bool true) ∧ Below w.heap.size w w' := by
  cases g
  · as_aux_lemma =>
    go_enter Try.func126, Try.ntmps126
    go_wp2_with fail
    refine wp_region_grows (by kernel_rfl) (by kernel_rfl) ?_
    repeat (first | quiet_step (fail) | (refine wpQuiet_step (fun K hK => ?_); go_simp; simp only [↓IntWalk.iteOmega]; go_simp; refine hK _ ?_; clear hK K))
    quiet_step (exact Calls.grows (HK.out _))
    repeat (first | quiet_step (fail) | (refine wpQuiet_step (fun K hK => ?_); go_simp; simp only [↓IntWalk.iteOmega]; go_simp; refine hK _ ?_; clear hK K))
    try quiet_step (exact Calls.grows (HV.out _))
    repeat (first | quiet_step (fail) | (refine wpQuiet_step (fun K hK => ?_); go_simp; simp only [↓IntWalk.iteOmega]; go_simp; refine hK _ ?_; clear hK K))
    refine wpQuiet_nil ?_
    rintro _ ⟨x, rfl⟩
    go_wp2_with fail
    go_ret
    exact ⟨rfl, (by repeat (first | exact Below.refl _ _ | assumption | with_reducible refine below_drewN ?_ _ | refine Gr.ext ?_ _ | refine Gr.alloc ?_ _ | refine Gr.drew ?_ | (refine Gr.set ?_ (by first | (simp; done) | (simp; omega)) _)))⟩
  · as_aux_lemma =>
    go_enter Try.func126, Try.ntmps126
    go_wp2_with fail
    refine wp_region_grows (by kernel_rfl) (by kernel_rfl) ?_
    repeat (first | quiet_step (fail) | (refine wpQuiet_step (fun K hK => ?_); go_simp; simp only [↓IntWalk.iteOmega]; go_simp; refine hK _ ?_; clear hK K))
    quiet_step (exact Calls.grows (HK.out _))
    repeat (first | quiet_step (fail) | (refine wpQuiet_step (fun K hK => ?_); go_simp; simp only [↓IntWalk.iteOmega]; go_simp; refine hK _ ?_; clear hK K))
    try quiet_step (exact Calls.grows (HV.out _))
    repeat (first | quiet_step (fail) | (refine wpQuiet_step (fun K hK => ?_); go_simp; simp only [↓IntWalk.iteOmega]; go_simp; refine hK _ ?_; clear hK K))
    refine wpQuiet_nil ?_
    rintro _ ⟨x, rfl⟩
    go_wp2_with fail
    go_ret
    exact ⟨rfl, (by repeat (first | exact Below.refl _ _ | assumption | with_reducible refine below_drewN ?_ _ | refine Gr.ext ?_ _ | refine Gr.alloc ?_ _ | refine Gr.drew ?_ | (refine Gr.set ?_ (by first | (simp; done) | (simp; omega)) _)))⟩
theorem mayHave (w : World) (p r : Nat) (x : ByteArray × Ver) (hr : w.cell? ⟨p, 0, none⟩ = some (.int .i64 r)) (hp : p < w.heap.size) (hf : ∀ o, w.frozen? ⟨p, o, none⟩ = false) :
    Calls Try.prog 126 #[.pointer (some ⟨p, 0, none⟩), .string x.1, .agg #[.int .i64 x.2.rev, .string x.2.val, .bool x.2.gone]] w fun e w' => e = .returned (.bool (mayV r x)) ∧ Below w.heap.size w w' := by
  obtain ⟨k, n, v, g⟩ := x
  have hB : (v.toList == []) = noB v := by rw [← noB_isEmpty]; cases v.toList <;> rfl
  by_cases hg : g = true → noB v = true
  · have HM : mayV r (k, ⟨n, v, g⟩) = (keyB k && valB v && decide (1 ≤ n) && decide (n ≤ r)) := by
      unfold mayV
      cases g
      · simp
      · simp [hg rfl]
    have hgv : (g && !noB v) = false := by cases g; · rfl
                                           · simp [hg rfl]
    have hgg : g = true → v.size = 0 := fun h => of_decide_eq_true (hg h)
    have HK : Hid (∀ W, Calls Try.prog 118 #[.string k] W fun e w' => e = .returned (.bool (keyB k)) ∧ Below W.heap.size W w') := fun W => (checkKey k W).mono fun e w' ⟨h1, h2⟩ => ⟨h1, h2 ▸ Below.refl _ _⟩
    have HV : Hid (∀ W, Calls Try.prog 119 #[.string v] W fun e w' => e = .returned (.bool (valB v)) ∧ Below W.heap.size W w') := fun W => (checkValue v W).mono fun e w' ⟨h1, h2⟩ => ⟨h1, h2 ▸ Below.refl _ _⟩
    rw [HM]
    generalize keyB k = kb at *
    generalize valB v = vb at *
    cases kb
    · exact mayA w p r n k v g hr hp hf hB hgv hgg vb HK HV
    · cases vb
      · exact mayB w p r n k v g hr hp hf hB hgv hgg HK HV
      · by_cases h1 : 1 ≤ n
        · by_cases h2 : n ≤ r
          · rw [decide_eq_true h1, decide_eq_true h2]
            exact mayE w p r n k v g hr hp hf hB hgv hgg HK HV (by omega) (by omega)
          · rw [decide_eq_true h1, decide_eq_false h2]
            exact mayD w p r n k v g hr hp hf hB hgv hgg HK HV (by omega) (by omega)
        · rw [decide_eq_false h1]
          exact mayC w p r n k v g hr hp hf hB hgv hgg HK HV (by omega)
  · obtain ⟨hg1, hg2⟩ := Classical.not_imp.1 hg
    subst hg1
    have hg3 : noB v = false := by cases h : noB v; · rfl
                                   · exact absurd h hg2
    have HM : Hid (mayV r (k, ⟨n, v, true⟩) = false) := by show _ = _; unfold mayV; simp [hg3]
    clear hg hg2
    go_enter Try.func126, Try.ntmps126
    go_wp2_with fail
    go_ret
    exact ⟨ret_bool HM.out.symm, (by repeat (first | exact Below.refl _ _ | assumption | with_reducible refine below_drewN ?_ _ | refine Gr.ext ?_ _ | refine Gr.alloc ?_ _ | refine Gr.drew ?_ | (refine Gr.set ?_ (by first | (simp; done) | (simp; omega)) _)))⟩
end Go.Proofs.Ytcbbnmodjnnbeaa
