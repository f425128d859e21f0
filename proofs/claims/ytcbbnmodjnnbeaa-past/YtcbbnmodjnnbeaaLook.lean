/- What a store tells: the pure side of Range. -/
import Derived.Test.YtcbbnmodjnnbeaaResult
set_option linter.unusedSimpArgs false
set_option linter.unusedVariables false
namespace Go.Proofs.Ytcbbnmodjnnbeaa
open Go.RowKit

/-- The value that was there at a revision, and its revision. -/
def look (vs : List Ver) (k : Int) : Option (ByteArray × Nat) := if (atV vs k).gone = true then none else some ((atV vs k).val, (atV vs k).rev)
theorem upToN_app (vs : List Ver) (x : Ver) (k : Int) (h : k < x.rev) : upToN (vs ++ [x]) k = upToN vs k := by
  unfold upToN
  rw [List.takeWhile_append]
  split
  · next h1 =>
    rw [List.takeWhile_cons, if_neg (by simpa using h)]
    simp [h1]
  · rfl
theorem atV_app (vs : List Ver) (x : Ver) (k : Int) (h : k < x.rev) : atV (vs ++ [x]) k = atV vs k := by
  unfold atV
  rw [upToN_app vs x k h]
  have hle := upToN_le vs k
  by_cases h0 : upToN vs k = 0
  · rw [if_pos h0, if_pos h0]
  · rw [if_neg h0, if_neg h0, List.getElem?_append_left (by omega)]
theorem upToN_mono (vs : List Ver) {j k : Int} (h : j ≤ k) : upToN vs j ≤ upToN vs k := by
  unfold upToN
  induction vs with
  | nil => simp
  | cons x xs ih =>
    rw [List.takeWhile_cons, List.takeWhile_cons]
    by_cases h1 : (x.rev : Int) ≤ j
    · rw [if_pos (by simpa using h1), if_pos (by simp; omega)]
      simp; exact ih
    · rw [if_neg (by simpa using h1)]
      simp
theorem upToN_drop (vs : List Ver) (d : Nat) (k : Int) (hd : d ≤ upToN vs k) : upToN (vs.drop d) k = upToN vs k - d := by
  induction d generalizing vs with
  | zero => simp
  | succ d ih =>
    cases vs with
    | nil => simp [upToN] at hd
    | cons x xs =>
      unfold upToN at hd
      rw [List.takeWhile_cons] at hd
      by_cases h1 : (x.rev : Int) ≤ k
      · rw [if_pos (by simpa using h1)] at hd
        simp at hd
        have := ih xs hd
        rw [List.drop_succ_cons, this]
        unfold upToN
        rw [List.takeWhile_cons, if_pos (by simpa using h1)]
        simp
      · rw [if_neg (by simpa using h1)] at hd
        simp at hd
theorem atV_none (vs : List Ver) (k : Int) (h : upToN vs k = 0) : atV vs k = Ver.none := by unfold atV; rw [if_pos h]
theorem look_drop (vs : List Ver) (f k : Int) (h : f ≤ k) : look (vs.drop (dropN vs f)) k = look vs k := by
  have hm := upToN_mono vs h
  have hle := upToN_le vs k
  have hd : dropN vs f ≤ upToN vs f := by unfold dropN; split <;> omega
  have e := upToN_drop vs (dropN vs f) k (by omega)
  by_cases h1 : dropN vs f < upToN vs k
  · have : atV (vs.drop (dropN vs f)) k = atV vs k := by
      unfold atV
      rw [e, if_neg (by omega), if_neg (by omega), List.getElem?_drop]
      congr 2; omega
    unfold look; rw [this]
  · have h2 : upToN vs k = dropN vs f := by omega
    have h3 : upToN vs f = dropN vs f := by omega
    have h4 : look (vs.drop (dropN vs f)) k = none := by
      unfold look; rw [atV_none _ k (by rw [e]; omega)]; rfl
    rw [h4]
    unfold look
    by_cases h0 : upToN vs k = 0
    · rw [atV_none _ k h0]; rfl
    · have hg : (atV vs k).gone = true := by
        unfold dropN at h3
        split at h3
        · omega
        · next hc =>
          unfold atV
          rw [if_neg h0, show upToN vs k = upToN vs f by omega]
          simp only [not_and, Bool.not_eq_false] at hc
          exact hc (by omega)
      rw [if_pos hg]
/-- What Range tells, ahead of its bound. -/
structure RangeIs (s : St) (lo hi : ByteArray) (rev : Int) (l : List Fnd) : Prop where
  asc : l.Pairwise fun a b => a.key.data.toList < b.key.data.toList
  mem : ∀ f : Fnd, f ∈ l ↔ (lo.data.toList ≤ f.key.data.toList ∧ (hi.size = 0 ∨ f.key.data.toList < hi.data.toList) ∧ ∃ r : Nat, look (s.vers f.key) rev = some (f.val, r) ∧ f.rev = r)
theorem asc_unique {l l' : List Fnd} (h : l.Pairwise fun a b => a.key.data.toList < b.key.data.toList) (h' : l'.Pairwise fun a b => a.key.data.toList < b.key.data.toList) (hm : ∀ f, f ∈ l ↔ f ∈ l') : l = l' := by
  have nd : ∀ {l : List Fnd}, (l.Pairwise fun a b => a.key.data.toList < b.key.data.toList) → l.Nodup := fun h => h.imp fun {a b} hab e => by subst e; exact absurd hab (List.lt_irrefl _)
  have hp : l.Perm l' := (List.perm_ext_iff_of_nodup (nd h) (nd h')).2 hm
  refine List.Perm.eq_of_pairwise (le := fun a b => a.key.data.toList < b.key.data.toList) (fun a b _ _ h1 h2 => ?_) h h' hp
  exact absurd (List.lt_trans h1 h2) (List.lt_irrefl _)
theorem RangeIs.unique {s s' : St} {lo hi : ByteArray} {rev : Int} {l l' : List Fnd} (h : RangeIs s lo hi rev l) (h' : RangeIs s' lo hi rev l') (he : ∀ k, look (s.vers k) rev = look (s'.vers k) rev) : l = l' :=
  asc_unique h.asc h'.asc fun f => by rw [h.mem, h'.mem, he]
theorem look_act (s : St) (hg : Good s) (c : Cmd) (k : Nat) (hk : k ≤ s.rev) (hf : (s.act c).2.floor ≤ k) (key : ByteArray) : look ((s.act c).2.vers key) k = look (s.vers key) k := by
  have lay : ∀ (a v : ByteArray) (g : Bool), look ((s.tryLay a v g).2.vers key) k = look (s.vers key) k := by
    intro a v g
    unfold St.tryLay
    split
    · rfl
    · show look (if key = a then s.vers a ++ [⟨s.rev + 1, v, g⟩] else s.vers key) k = _
      split
      · next e => subst e; unfold look; rw [atV_app _ _ _ (by show (k : Int) < ((s.rev + 1 : Nat) : Int); omega)]
      · rfl
  unfold St.act at hf ⊢
  split
  · exact lay _ _ _
  · split
    · split
      · exact lay _ _ _
      · rfl
    · split
      · split
        · exact lay _ _ _
        · rfl
      · split
        · split
          · next h1 h2 h3 h4 h5 =>
            rw [if_neg h1, if_neg h2, if_neg h3, if_pos h4, if_pos h5] at hf
            show look ((s.vers key).drop (dropN (s.vers key) ((c.rev.toNat : Nat) : Int))) k = _
            refine look_drop _ _ _ ?_
            have : c.rev.toNat ≤ k := hf
            omega
          · rfl
        · rfl
end Go.Proofs.Ytcbbnmodjnnbeaa
