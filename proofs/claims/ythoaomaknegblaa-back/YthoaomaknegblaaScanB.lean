/- A journal of two records and one that breaks off (plain). -/
import Derived.Test.YthoaomaknegblaaScanP
import Derived.Test.YthoaomaknegblaaTurn
set_option linter.unusedSimpArgs false
set_option linter.unusedVariables false
namespace Go.Proofs.Ythoaomaknegblaa
open Go.RowKit

theorem encL_lt (r : Rec) (h : r.may = true) : (encL r).length < 16777216 := by
  have := bodyL_len r h
  unfold encL
  rw [List.length_append, be_length]
  omega
/-- A record's block in a journal. -/
def oneL (r : Rec) : List UInt8 := be 3 (encL r).length ++ encL r
theorem scan_one (r : Rec) (m : List UInt8) (h : r.may = true) : scanStep (oneL r ++ m) = some (r, m) := by
  unfold scanStep oneL
  rw [List.append_assoc, blockL_fwd _ _ (encL_lt r h)]
  simp only
  rw [decR_enc r h, if_pos rfl]
theorem scan_short (l : List UInt8) (h : (blockL l false).1 = []) : scanStep l = none := by
  unfold scanStep
  rw [h, decR_nil, if_neg (by omega)]
theorem takeL_nil (l : List UInt8) (b : Bool) (n : Nat) (h : l.length < n) : takeL l b n = ([], [], true) := by
  unfold takeL; rw [if_pos h]
theorem takeL_empty (b : Bool) (n : Nat) : (takeL [] b n).1 = [] := by
  unfold takeL; split <;> simp
theorem scan_cut (r : Rec) (h : r.may = true) (L : List UInt8) (x : UInt8) (e : oneL r = L ++ [x]) : scanStep L = none := by
  apply scan_short
  have hl := congrArg List.length e
  simp only [oneL, List.length_append, be_length, List.length_cons, List.length_nil] at hl
  have h4 : 4 ≤ (encL r).length := by unfold encL; rw [List.length_append, be_length]; omega
  obtain ⟨S, hS⟩ : ∃ S, L = be 3 (encL r).length ++ S := by
    unfold oneL at e
    rcases List.append_eq_append_iff.mp e with ⟨a, h1, h2⟩ | ⟨a, h1, h2⟩
    · exact ⟨a, h1⟩
    · have := congrArg List.length h1
      simp only [List.length_append, be_length] at this
      have ha : a = [] := List.eq_nil_of_length_eq_zero (by omega)
      subst ha
      exact ⟨[], by rw [h1]; simp⟩
  have hS2 : S.length < (encL r).length := by rw [hS] at hl; simp only [List.length_append, be_length] at hl; omega
  unfold blockL
  rw [hS, numL_fwd _ _ (encL_lt r h)]
  simp only
  rw [takeL_nil _ _ _ hS2]
theorem scan_back (r : Rec) (h : r.may = true) (L : List UInt8) (x : UInt8) (e : oneL r = L ++ [x]) : ScanTo (oneL r ++ (oneL r ++ L)) [r, r] L ∧ scanStep L = none :=
  ⟨⟨_, scan_one r _ h, _, scan_one r _ h, rfl⟩, scan_cut r h L x e⟩
end Go.Proofs.Ythoaomaknegblaa
