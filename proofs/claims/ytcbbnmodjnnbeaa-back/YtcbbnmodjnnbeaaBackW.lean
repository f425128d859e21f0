/- The law's own small functions: pick, works. -/
import Derived.Test.YtcbbnmodjnnbeaaScanW
import Derived.Test.YtcbbnmodjnnbeaaScanB
set_option linter.unusedSimpArgs false
set_option linter.unusedVariables false
namespace Go.Proofs.Ytcbbnmodjnnbeaa
open Go.RowKit
attribute [local go_sem] World.ext_ext

def pickI (c n : Int) : Int := Int.tmod (if c < 0 then -(c + 1) else c) n
theorem pickI_lt (c n : Int) (hn : 0 < n) : 0 ≤ pickI c n ∧ pickI c n < n := by
  unfold pickI
  have h0 : 0 ≤ (if c < 0 then -(c + 1) else c) := by split <;> omega
  rw [Int.tmod_eq_emod_of_nonneg h0]
  exact ⟨Int.emod_nonneg _ (by omega), Int.emod_lt_of_pos _ hn⟩
theorem lawPick (c n : Int) (w : World) (h0 : -9223372036854775808 ≤ c) (h1 : c < 9223372036854775808) (hn : 0 < n) (hn1 : n < 9223372036854775808) :
    Calls Try.prog 24 #[.int .i64 c, .int .i64 n] w fun e w' => e = .returned (.int .i64 (pickI c n)) ∧ w' = w := by
  by_cases hc : c < 0
  · go_enter Try.func24, Try.ntmps24
    go_wp2
    exact bodyPost_ret (v := .int .i64 (pickI c n)) (by simp [results, Try.results24, go_sem, pickI, hc, Int.neg_tmod]) rfl ⟨rfl, rfl⟩
  · go_enter Try.func24, Try.ntmps24
    go_wp2
    have hc' : 0 ≤ c := by omega
    exact bodyPost_ret (v := .int .i64 (pickI c n)) (by simp [results, Try.results24, go_sem, pickI, show ¬ c < 0 by omega, Int.tmod_eq_emod_of_nonneg hc']) rfl ⟨rfl, rfl⟩
theorem works_enc : encL ⟨2, 0, 0, 2, 1, 0, Cmd.zero, ⟨#[]⟩⟩ = [2, 0, 0, 2, 2, 0, 21, 0, 7] := by decide
theorem works_sum : By.sum [97] = 6422626 := by decide
set_option maxRecDepth 100000 in
theorem lawWorks (w : World) :
    Calls Try.prog 23 #[] w fun e w' => e = .returned (.bool true) ∧ Below w.heap.size w w' := by
  go_enter Try.func23, Try.ntmps23
  go_wp2_with fail
  refine (codecEncode ⟨2, 0, 0, 2, 1, 0, Cmd.zero, ⟨#[]⟩⟩ _ (by decide)).mono ?_
  rw [works_enc]
  rintro e w1 ⟨rfl, hb1⟩
  obtain ⟨x1, rfl⟩ := Below.ext hb1
  clear hb1
  have hconv := conv_new (w.ext x1) [2, 0, 0, 2, 2, 0, 21, 0, 7] 9 rfl _ rfl
  rw [World.ext_size, show strOfNums [2, 0, 0, 2, 2, 0, 21, 0, 7] = B [2, 0, 0, 2, 2, 0, 21, 0, 7] from by rfl] at hconv
  simp only [List.map_cons, List.map_nil] at hconv
  go_wp2_with fail
  refine (codecSum ⟨#[97]⟩ _ (by decide)).mono ?_
  rw [works_sum]
  rintro e w1 ⟨rfl, rfl⟩
  go_wp2_with fail
  exact bodyPost_ret (v := .bool true) (by simp [results, Try.results23, go_sem]) rfl ⟨rfl, Gr.alloc (Below.of_ext w x1) _⟩
end Go.Proofs.Ytcbbnmodjnnbeaa
