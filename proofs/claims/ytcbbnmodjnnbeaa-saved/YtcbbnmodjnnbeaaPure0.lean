/- Numbers and texts as bytes, back and forth. -/
import Derived.Test.YtcbbnmodjnnbeaaReader
set_option linter.unusedSimpArgs false
set_option linter.unusedVariables false
namespace Go.Proofs.Ytcbbnmodjnnbeaa

theorem be1 (n : Nat) (h : n < 256) : be 1 n = [UInt8.ofNat n] := by simp [be, Nat.mod_eq_of_lt h]
theorem be3 (n : Nat) (h : n < 16777216) : be 3 n = [UInt8.ofNat (n / 65536), UInt8.ofNat (n / 256 % 256), UInt8.ofNat (n % 256)] := by
  simp [be, Nat.mod_eq_of_lt (show n / 65536 < 256 by omega)]
theorem toNat_of (n : Nat) (h : n < 256) : (UInt8.ofNat n).toNat = n := UInt8.toNat_ofNat_of_lt' (by simpa [UInt8.size] using h)
theorem of_toNat (c : UInt8) : UInt8.ofNat c.toNat = c := by simp
theorem rd3 (a b c : UInt8) : rd [a, b, c] 0 3 = a.toNat * 65536 + b.toNat * 256 + c.toNat := by simp [rd]; omega

-- forward
theorem byteL_fwd (n : Nat) (l : List UInt8) (h : n < 256) : byteL (be 1 n ++ l) false = (n, l, false) := by
  rw [be1 n h]; simp [byteL, takeL, toNat_of n h]
theorem numL_fwd (n : Nat) (l : List UInt8) (h : n < 16777216) : numL (be 3 n ++ l) false = (n, l, false) := by
  rw [be3 n h]
  have e : takeL ([UInt8.ofNat (n / 65536), UInt8.ofNat (n / 256 % 256), UInt8.ofNat (n % 256)] ++ l) false 3 = ([UInt8.ofNat (n / 65536), UInt8.ofNat (n / 256 % 256), UInt8.ofNat (n % 256)], l, false) := by
    simp [takeL]
  unfold numL
  rw [e, rd3, toNat_of _ (by omega), toNat_of _ (by omega), toNat_of _ (by omega)]
  have : n / 65536 * 65536 + n / 256 % 256 * 256 + n % 256 = n := by omega
  simp [this]
theorem takeL_fwd (s l : List UInt8) : takeL (s ++ l) false s.length = (s, l, false) := by
  simp [takeL]
theorem textL_fwd (s l : List UInt8) (h : s.length < 256) : textL (be 1 s.length ++ (s ++ l)) false = (s, l, false) := by
  unfold textL; rw [byteL_fwd _ _ h]; exact takeL_fwd s l
theorem blockL_fwd (s l : List UInt8) (h : s.length < 16777216) : blockL (be 3 s.length ++ (s ++ l)) false = (s, l, false) := by
  unfold blockL; rw [numL_fwd _ _ h]; exact takeL_fwd s l

-- back
theorem takeL_back (l : List UInt8) (b : Bool) (n : Nat) (h : (takeL l b n).2.2 = false) : b = false ∧ ∃ s l', s.length = n ∧ l = s ++ l' ∧ takeL l b n = (s, l', false) := by
  unfold takeL at h
  by_cases hn : l.length < n
  · rw [if_pos hn] at h; cases h
  · rw [if_neg hn] at h
    simp only at h
    subst h
    exact ⟨rfl, l.take n, l.drop n, by simp; omega, (List.take_append_drop n l).symm, by unfold takeL; rw [if_neg hn]⟩
theorem byteL_back (l : List UInt8) (b : Bool) (h : (byteL l b).2.2 = false) : b = false ∧ ∃ n l', n < 256 ∧ l = be 1 n ++ l' ∧ byteL l b = (n, l', false) := by
  have h1 : (takeL l b 1).2.2 = false := by unfold byteL at h; split at h <;> exact h
  obtain ⟨hb, s, l', hs, hl, ht⟩ := takeL_back l b 1 h1
  match s, hs with
  | [c], _ =>
    refine ⟨hb, c.toNat, l', by have := c.toNat_lt; omega, by rw [be1 _ (by have := c.toNat_lt; omega), of_toNat]; exact hl, ?_⟩
    unfold byteL; rw [ht]; simp
theorem numL_back (l : List UInt8) (b : Bool) (h : (numL l b).2.2 = false) : b = false ∧ ∃ n l', n < 16777216 ∧ l = be 3 n ++ l' ∧ numL l b = (n, l', false) := by
  have h1 : (takeL l b 3).2.2 = false := by unfold numL at h; split at h <;> exact h
  obtain ⟨hb, s, l', hs, hl, ht⟩ := takeL_back l b 3 h1
  match s, hs with
  | [x, y, z], _ =>
    have hx := x.toNat_lt
    have hy := y.toNat_lt
    have hz := z.toNat_lt
    refine ⟨hb, rd [x, y, z] 0 3, l', by rw [rd3]; omega, ?_, ?_⟩
    · rw [be3 _ (by rw [rd3]; omega), rd3, show (x.toNat * 65536 + y.toNat * 256 + z.toNat) / 65536 = x.toNat by omega, show (x.toNat * 65536 + y.toNat * 256 + z.toNat) / 256 % 256 = y.toNat by omega,
        show (x.toNat * 65536 + y.toNat * 256 + z.toNat) % 256 = z.toNat by omega, of_toNat, of_toNat, of_toNat]
      exact hl
    · unfold numL; rw [ht]; simp
theorem textL_back (l : List UInt8) (b : Bool) (h : (textL l b).2.2 = false) : b = false ∧ ∃ s l', s.length < 256 ∧ l = be 1 s.length ++ (s ++ l') ∧ textL l b = (s, l', false) := by
  unfold textL at h
  obtain ⟨hb, s, l', hs, hl, ht⟩ := takeL_back _ _ _ h
  obtain ⟨hb2, n, l2, hn, hl2, hbt⟩ := byteL_back l b hb
  rw [hbt] at hl ht hs
  simp only at hl hs
  subst hs
  exact ⟨hb2, s, l', hn, by rw [hl2, hl], by unfold textL; rw [hbt]; exact ht⟩
theorem blockL_back (l : List UInt8) (b : Bool) (h : (blockL l b).2.2 = false) : b = false ∧ ∃ s l', s.length < 16777216 ∧ l = be 3 s.length ++ (s ++ l') ∧ blockL l b = (s, l', false) := by
  unfold blockL at h
  obtain ⟨hb, s, l', hs, hl, ht⟩ := takeL_back _ _ _ h
  obtain ⟨hb2, n, l2, hn, hl2, hbt⟩ := numL_back l b hb
  rw [hbt] at hl ht hs
  simp only at hl hs
  subst hs
  exact ⟨hb2, s, l', hn, by rw [hl2, hl], by unfold blockL; rw [hbt]; exact ht⟩

end Go.Proofs.Ytcbbnmodjnnbeaa
