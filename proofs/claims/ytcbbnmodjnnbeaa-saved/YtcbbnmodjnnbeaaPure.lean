/- Both readings take the same: plain lists. -/
import Derived.Test.YtcbbnmodjnnbeaaDecProg
set_option linter.unusedSimpArgs false
set_option linter.unusedVariables false
namespace Go.Proofs.Ytcbbnmodjnnbeaa

theorem be1 (n : Nat) (h : n < 256) : be 1 n = [UInt8.ofNat n] := by simp [be, Nat.mod_eq_of_lt h]
theorem be3 (n : Nat) (h : n < 16777216) : be 3 n = [UInt8.ofNat (n / 65536), UInt8.ofNat (n / 256 % 256), UInt8.ofNat (n % 256)] := by
  simp [be, Nat.mod_eq_of_lt (show n / 65536 < 256 by omega)]
theorem toNat_of (n : Nat) (h : n < 256) : (UInt8.ofNat n).toNat = n := UInt8.toNat_ofNat_of_lt' (by simpa [UInt8.size] using h)
theorem of_toNat (c : UInt8) : UInt8.ofNat c.toNat = c := by simp
theorem rd3 (a b c : UInt8) : rd [a, b, c] 0 3 = a.toNat * 65536 + b.toNat * 256 + c.toNat := by simp [rd]; omega

-- forward
theorem byteL_fwd (n : Nat) (l : List UInt8) (h : n < 256) : byteL (be 1 n ++ l) false = (n, l, false) := by
  rw [be1 n h]; simp [byteL, takeL, toNat_of n h]
theorem numL_fwd (n : Nat) (l : List UInt8) (h : n < 16777216) : numL (be 3 n ++ l) false = (n, l, false) := by
  rw [be3 n h]
  have e : takeL ([UInt8.ofNat (n / 65536), UInt8.ofNat (n / 256 % 256), UInt8.ofNat (n % 256)] ++ l) false 3 = ([UInt8.ofNat (n / 65536), UInt8.ofNat (n / 256 % 256), UInt8.ofNat (n % 256)], l, false) := by
    simp [takeL]
  unfold numL
  rw [e, rd3, toNat_of _ (by omega), toNat_of _ (by omega), toNat_of _ (by omega)]
  have : n / 65536 * 65536 + n / 256 % 256 * 256 + n % 256 = n := by omega
  simp [this]
theorem takeL_fwd (s l : List UInt8) : takeL (s ++ l) false s.length = (s, l, false) := by
  simp [takeL]
theorem textL_fwd (s l : List UInt8) (h : s.length < 256) : textL (be 1 s.length ++ (s ++ l)) false = (s, l, false) := by
  unfold textL; rw [byteL_fwd _ _ h]; exact takeL_fwd s l
theorem blockL_fwd (s l : List UInt8) (h : s.length < 16777216) : blockL (be 3 s.length ++ (s ++ l)) false = (s, l, false) := by
  unfold blockL; rw [numL_fwd _ _ h]; exact takeL_fwd s l

-- back
theorem takeL_back (l : List UInt8) (b : Bool) (n : Nat) (h : (takeL l b n).2.2 = false) : b = false ∧ ∃ s l', s.length = n ∧ l = s ++ l' ∧ takeL l b n = (s, l', false) := by
  unfold takeL at h
  by_cases hn : l.length < n
  · rw [if_pos hn] at h; cases h
  · rw [if_neg hn] at h
    simp only at h
    subst h
    exact ⟨rfl, l.take n, l.drop n, by simp; omega, (List.take_append_drop n l).symm, by unfold takeL; rw [if_neg hn]⟩
theorem byteL_back (l : List UInt8) (b : Bool) (h : (byteL l b).2.2 = false) : b = false ∧ ∃ n l', n < 256 ∧ l = be 1 n ++ l' ∧ byteL l b = (n, l', false) := by
  have h1 : (takeL l b 1).2.2 = false := by unfold byteL at h; split at h <;> exact h
  obtain ⟨hb, s, l', hs, hl, ht⟩ := takeL_back l b 1 h1
  match s, hs with
  | [c], _ =>
    refine ⟨hb, c.toNat, l', by have := c.toNat_lt; omega, by rw [be1 _ (by have := c.toNat_lt; omega), of_toNat]; exact hl, ?_⟩
    unfold byteL; rw [ht]; simp
theorem numL_back (l : List UInt8) (b : Bool) (h : (numL l b).2.2 = false) : b = false ∧ ∃ n l', n < 16777216 ∧ l = be 3 n ++ l' ∧ numL l b = (n, l', false) := by
  have h1 : (takeL l b 3).2.2 = false := by unfold numL at h; split at h <;> exact h
  obtain ⟨hb, s, l', hs, hl, ht⟩ := takeL_back l b 3 h1
  match s, hs with
  | [x, y, z], _ =>
    have hx := x.toNat_lt
    have hy := y.toNat_lt
    have hz := z.toNat_lt
    refine ⟨hb, rd [x, y, z] 0 3, l', by rw [rd3]; omega, ?_, ?_⟩
    · rw [be3 _ (by rw [rd3]; omega), rd3, show (x.toNat * 65536 + y.toNat * 256 + z.toNat) / 65536 = x.toNat by omega, show (x.toNat * 65536 + y.toNat * 256 + z.toNat) / 256 % 256 = y.toNat by omega,
        show (x.toNat * 65536 + y.toNat * 256 + z.toNat) % 256 = z.toNat by omega, of_toNat, of_toNat, of_toNat]
      exact hl
    · unfold numL; rw [ht]; simp
theorem textL_back (l : List UInt8) (b : Bool) (h : (textL l b).2.2 = false) : b = false ∧ ∃ s l', s.length < 256 ∧ l = be 1 s.length ++ (s ++ l') ∧ textL l b = (s, l', false) := by
  unfold textL at h
  obtain ⟨hb, s, l', hs, hl, ht⟩ := takeL_back _ _ _ h
  obtain ⟨hb2, n, l2, hn, hl2, hbt⟩ := byteL_back l b hb
  rw [hbt] at hl ht hs
  simp only at hl hs
  subst hs
  exact ⟨hb2, s, l', hn, by rw [hl2, hl], by unfold textL; rw [hbt]; exact ht⟩
theorem blockL_back (l : List UInt8) (b : Bool) (h : (blockL l b).2.2 = false) : b = false ∧ ∃ s l', s.length < 16777216 ∧ l = be 3 s.length ++ (s ++ l') ∧ blockL l b = (s, l', false) := by
  unfold blockL at h
  obtain ⟨hb, s, l', hs, hl, ht⟩ := takeL_back _ _ _ h
  obtain ⟨hb2, n, l2, hn, hl2, hbt⟩ := numL_back l b hb
  rw [hbt] at hl ht hs
  simp only at hl hs
  subst hs
  exact ⟨hb2, s, l', hn, by rw [hl2, hl], by unfold blockL; rw [hbt]; exact ht⟩

theorem cmd_back (l : List UInt8) (b : Bool) (t1 t2 t3 t7 : Nat × List UInt8 × Bool) (t4 t5 t6 : List UInt8 × List UInt8 × Bool) (e1 : t1 = byteL l b) (e2 : t2 = byteL t1.2.1 t1.2.2) (e3 : t3 = numL t2.2.1 t2.2.2)
    (e4 : t4 = textL t3.2.1 t3.2.2) (e5 : t5 = textL t4.2.1 t4.2.2) (e6 : t6 = textL t5.2.1 t5.2.2) (e7 : t7 = numL t6.2.1 t6.2.2) (h : t7.2.2 = false) :
    b = false ∧ l = cmdL ⟨t1.1, B t4.1, B t5.1, B t6.1, t7.1, t2.1, t3.1⟩ ++ t7.2.1 := by
  rw [e7] at h
  obtain ⟨h6, n7, l7, b7, q7, r7⟩ := numL_back _ _ h
  rw [r7] at e7
  rw [e6] at h6
  obtain ⟨h5, s6, l6, b6, q6, r6⟩ := textL_back _ _ h6
  rw [r6] at e6
  rw [e5] at h5
  obtain ⟨h4, s5, l5, b5, q5, r5⟩ := textL_back _ _ h5
  rw [r5] at e5
  rw [e4] at h4
  obtain ⟨h3, s4, l4, b4, q4, r4⟩ := textL_back _ _ h4
  rw [r4] at e4
  rw [e3] at h3
  obtain ⟨h2, n3, l3, b3, q3, r3⟩ := numL_back _ _ h3
  rw [r3] at e3
  rw [e2] at h2
  obtain ⟨h1, n2, l2, b2, q2, r2⟩ := byteL_back _ _ h2
  rw [r2] at e2
  rw [e1] at h1
  obtain ⟨h0, n1, l1, b1, q1, r1⟩ := byteL_back _ _ h1
  rw [r1] at e1
  clear r1 r2 r3 r4 r5 r6 r7 h1 h2 h3 h4 h5 h6
  rw [e1] at q2
  rw [e2] at q3
  rw [e3] at q4
  rw [e4] at q5
  rw [e5] at q6
  rw [e6] at q7
  rw [e1, e2, e3, e4, e5, e6, e7]
  clear e1 e2 e3 e4 e5 e6 e7
  simp only at q1 q2 q3 q4 q5 q6 q7 ⊢
  refine ⟨h0, ?_⟩
  rw [q1, q2, q3, q4, q5, q6, q7]
  simp only [cmdL, B_size, B_list, Int.toNat_natCast, List.append_assoc]
theorem cmd_back' (l : List UInt8) (b : Bool) (h : (cmdLd l b).2.2 = false) : b = false ∧ l = cmdL (cmdLd l b).1 ++ (cmdLd l b).2.1 := by
  simp only [cmdLd] at h ⊢
  generalize e1 : byteL l b = t1 at *
  generalize e2 : byteL t1.2.1 t1.2.2 = t2 at *
  generalize e3 : numL t2.2.1 t2.2.2 = t3 at *
  generalize e4 : textL t3.2.1 t3.2.2 = t4 at *
  generalize e5 : textL t4.2.1 t4.2.2 = t5 at *
  generalize e6 : textL t5.2.1 t5.2.2 = t6 at *
  generalize e7 : numL t6.2.1 t6.2.2 = t7 at *
  exact cmd_back l b t1 t2 t3 t7 t4 t5 t6 e1.symm e2.symm e3.symm e4.symm e5.symm e6.symm e7.symm h
theorem cmd_fwd (c : Cmd) (l : List UInt8) (h : CmdBd c) : cmdLd (cmdL c ++ l) false = (c, l, false) := by
  obtain ⟨k0, k4, s0, s8, q0, q1, key, val, old, r0, r1⟩ := h
  obtain ⟨kind, ck, cv, co, rev, ses, seq⟩ := c
  simp only at *
  obtain ⟨nk, rfl⟩ := Int.eq_ofNat_of_zero_le k0
  obtain ⟨ns, rfl⟩ := Int.eq_ofNat_of_zero_le s0
  obtain ⟨nq, rfl⟩ := Int.eq_ofNat_of_zero_le q0
  obtain ⟨nr, rfl⟩ := Int.eq_ofNat_of_zero_le r0
  simp only [cmdL, Int.toNat_natCast, List.append_assoc]
  unfold cmdLd
  simp only
  rw [byteL_fwd nk _ (by omega)]; simp only
  rw [byteL_fwd ns _ (by omega)]; simp only
  rw [numL_fwd nq _ (by omega)]; simp only
  rw [← len_data ck, textL_fwd _ _ (by rw [len_data]; omega)]; simp only
  rw [← len_data cv, textL_fwd _ _ (by rw [len_data]; omega)]; simp only
  rw [← len_data co, textL_fwd _ _ (by rw [len_data]; omega)]; simp only
  rw [numL_fwd nr _ (by omega)]
  simp only [B_eta]

theorem rec_fwd (r : Rec) (h : r.may = true) : recLd (bodyL r) false = (r, [], false) := by
  rcases rec_kind r h with hk | hk | hk
  · obtain ⟨a1, a2, a3, a4, a5, a6, a7, a8, a9, a10, a11⟩ := rec_bd1 r h hk
    obtain ⟨kind, gen, index, term, vote, many, cmd, data⟩ := r
    simp only at *
    subst hk a10 a11
    obtain ⟨ng, rfl⟩ := Int.eq_ofNat_of_zero_le (show 0 ≤ gen by omega)
    obtain ⟨ni, rfl⟩ := Int.eq_ofNat_of_zero_le a3
    obtain ⟨nt, rfl⟩ := Int.eq_ofNat_of_zero_le a5
    obtain ⟨nm, rfl⟩ := Int.eq_ofNat_of_zero_le a7
    simp only [bodyL, if_true, Int.toNat_natCast, List.append_assoc]
    unfold recLd
    rw [byteL_fwd 1 _ (by omega)]; simp only [if_true]
    unfold recLd1; simp only
    rw [numL_fwd ng _ (by omega)]; simp only
    rw [numL_fwd ni _ (by omega)]; simp only
    rw [numL_fwd nt _ (by omega)]; simp only
    rw [numL_fwd nm _ (by omega)]; simp only
    rw [← len_data data]
    have e := blockL_fwd data.data.toList [] (by rw [len_data]; omega)
    rw [List.append_nil] at e
    rw [e]
    simp only [B_eta]
    rfl
  · obtain ⟨a1, a2, a3, a4⟩ := rec_bd2 r h hk
    have hz : r = ⟨2, 0, 0, r.term, r.vote, 0, Cmd.zero, ByteArray.empty⟩ := by
      simp [Rec.may, hk, Cmd.same_iff, noB] at h
      obtain ⟨kind, gen, index, term, vote, many, cmd, data⟩ := r
      simp only at *
      simp [h, hk]
    rw [hz]
    generalize r.term = term at *
    generalize r.vote = vote at *
    clear hz hk h
    obtain ⟨nt, rfl⟩ := Int.eq_ofNat_of_zero_le a1
    obtain ⟨nv, hv⟩ := Int.eq_ofNat_of_zero_le (show 0 ≤ vote + 1 by omega)
    have hv' : vote = (nv : Int) - 1 := by omega
    subst hv'
    simp only [bodyL, Int.toNat_natCast, hv, List.append_assoc]
    rw [if_neg (by omega), if_pos trivial]
    unfold recLd
    rw [byteL_fwd 2 _ (by omega)]; simp only
    rw [if_neg (by omega), if_pos trivial]
    unfold recLd2; simp only
    rw [numL_fwd nt _ (by omega)]; simp only
    have e := byteL_fwd nv [] (by omega)
    rw [List.append_nil] at e
    rw [e]
    rfl
  · obtain ⟨a1, a2, a3, a4, a5⟩ := rec_bd3 r h hk
    have hc := cmd_bd r.cmd a5
    have hz : r = ⟨3, 0, r.index, r.term, 0, 0, r.cmd, ByteArray.empty⟩ := by
      simp [Rec.may, hk, noB] at h
      obtain ⟨kind, gen, index, term, vote, many, cmd, data⟩ := r
      simp only at *
      simp [h, hk]
    rw [hz]
    generalize r.term = term at *
    generalize r.index = index at *
    generalize r.cmd = cmd at *
    clear hz hk h
    obtain ⟨nt, rfl⟩ := Int.eq_ofNat_of_zero_le a3
    obtain ⟨ni, rfl⟩ := Int.eq_ofNat_of_zero_le (show 0 ≤ index by omega)
    simp only [bodyL, Int.toNat_natCast, List.append_assoc]
    rw [if_neg (by omega), if_neg (by omega)]
    unfold recLd
    rw [byteL_fwd 3 _ (by omega)]; simp only
    rw [if_neg (by omega), if_neg (by omega), if_pos trivial]
    unfold recLd3; simp only
    rw [numL_fwd ni _ (by omega)]; simp only
    rw [numL_fwd nt _ (by omega)]; simp only
    have e := cmd_fwd cmd [] hc
    rw [List.append_nil] at e
    rw [e]
    rfl

theorem rec_back1 (k : Nat) (l : List UInt8) (b : Bool) (hk : k = 1) (h : (recLd1 k l b).2 = ([], false)) : b = false ∧ l = be 3 (recLd1 k l b).1.gen.toNat ++ (be 3 (recLd1 k l b).1.index.toNat ++ (be 3 (recLd1 k l b).1.term.toNat ++ (be 3 (recLd1 k l b).1.many.toNat ++ (be 3 (recLd1 k l b).1.data.size ++ (recLd1 k l b).1.data.data.toList)))) := by
  simp only [recLd1] at h ⊢
  generalize e2 : numL l b = t2 at *
  generalize e3 : numL t2.2.1 t2.2.2 = t3 at *
  generalize e4 : numL t3.2.1 t3.2.2 = t4 at *
  generalize e5 : numL t4.2.1 t4.2.2 = t5 at *
  generalize e6 : blockL t5.2.1 t5.2.2 = t6 at *
  have h6 : (blockL t5.2.1 t5.2.2).2.2 = false := by rw [e6, h]
  obtain ⟨h5, s6, l6, b6, q6, r6⟩ := blockL_back _ _ h6
  rw [r6] at e6
  rw [← e5] at h5
  obtain ⟨h4, n5, l5, b5, q5, r5⟩ := numL_back _ _ h5
  rw [r5] at e5
  rw [← e4] at h4
  obtain ⟨h3, n4, l4, b4, q4, r4⟩ := numL_back _ _ h4
  rw [r4] at e4
  rw [← e3] at h3
  obtain ⟨h2, n3, l3, b3, q3, r3⟩ := numL_back _ _ h3
  rw [r3] at e3
  rw [← e2] at h2
  obtain ⟨h1, n2, l2, b2, q2, r2⟩ := numL_back _ _ h2
  rw [r2] at e2
  rw [← e2] at q3
  rw [← e3] at q4
  rw [← e4] at q5
  rw [← e5] at q6
  rw [← e6] at h
  rw [← e2, ← e3, ← e4, ← e5, ← e6]
  simp only at q2 q3 q4 q5 q6 h ⊢
  refine ⟨h1, ?_⟩
  have hl : l6 = [] := by injection h
  subst hl
  rw [q2, q3, q4, q5, q6]
  simp only [B_size, B_list, Int.toNat_natCast, List.append_nil]
theorem rec_back2 (k : Nat) (l : List UInt8) (b : Bool) (h : (recLd2 k l b).2 = ([], false)) : b = false ∧ l = be 3 (recLd2 k l b).1.term.toNat ++ be 1 ((recLd2 k l b).1.vote + 1).toNat := by
  simp only [recLd2] at h ⊢
  generalize e2 : numL l b = t2 at *
  generalize e3 : byteL t2.2.1 t2.2.2 = t3 at *
  have h3 : (byteL t2.2.1 t2.2.2).2.2 = false := by rw [e3, h]
  obtain ⟨h2, n3, l3, b3, q3, r3⟩ := byteL_back _ _ h3
  rw [r3] at e3
  rw [← e2] at h2
  obtain ⟨h1, n2, l2, b2, q2, r2⟩ := numL_back _ _ h2
  rw [r2] at e2
  rw [← e2] at q3
  rw [← e3] at h
  rw [← e2, ← e3]
  simp only at q2 q3 h ⊢
  refine ⟨h1, ?_⟩
  have hl : l3 = [] := by injection h
  subst hl
  rw [q2, q3]
  simp only [Int.toNat_natCast, List.append_nil, Int.sub_add_cancel]
theorem rec_back3 (k : Nat) (l : List UInt8) (b : Bool) (h : (recLd3 k l b).2 = ([], false)) : b = false ∧ l = be 3 (recLd3 k l b).1.index.toNat ++ (be 3 (recLd3 k l b).1.term.toNat ++ cmdL (recLd3 k l b).1.cmd) := by
  simp only [recLd3] at h ⊢
  generalize e2 : numL l b = t2 at *
  generalize e3 : numL t2.2.1 t2.2.2 = t3 at *
  have h4 : (cmdLd t3.2.1 t3.2.2).2.2 = false := by rw [h]
  obtain ⟨h3, q4⟩ := cmd_back' _ _ h4
  rw [h] at q4
  rw [← e3] at h3
  obtain ⟨h2, n3, l3, b3, q3, r3⟩ := numL_back _ _ h3
  rw [r3] at e3
  rw [← e2] at h2
  obtain ⟨h1, n2, l2, b2, q2, r2⟩ := numL_back _ _ h2
  rw [r2] at e2
  rw [← e2] at q3
  refine ⟨h1, ?_⟩
  generalize cmdLd t3.2.1 t3.2.2 = t4 at *
  rw [← e3] at q4 ⊢
  rw [← e2]
  simp only at q2 q3 q4 ⊢
  rw [q2, q3, q4]
  simp only [Int.toNat_natCast, List.append_nil]

theorem rec_back (l : List UInt8) (h : (recLd l false).2 = ([], false)) (hm : (recLd l false).1.may = true) : bodyL (recLd l false).1 = l := by
  unfold recLd at h hm ⊢
  by_cases k1 : (byteL l false).1 = 1
  · simp only [if_pos k1] at h hm ⊢
    obtain ⟨hb, hl⟩ := rec_back1 _ _ _ k1 h
    obtain ⟨-, n, l', hn, q, r⟩ := byteL_back l false hb
    have hkind : (recLd1 (byteL l false).1 (byteL l false).2.1 (byteL l false).2.2).1.kind = 1 := by rw [← Int.ofNat_one, ← k1]; rfl
    generalize recLd1 (byteL l false).1 (byteL l false).2.1 (byteL l false).2.2 = X at *
    rw [r] at k1 hl
    simp only at k1 hl
    rw [q, k1, hl]
    simp only [bodyL, hkind, if_true, List.append_assoc]
  · by_cases k2 : (byteL l false).1 = 2
    · simp only [if_neg k1, if_pos k2] at h hm ⊢
      obtain ⟨hb, hl⟩ := rec_back2 _ _ _ h
      obtain ⟨-, n, l', hn, q, r⟩ := byteL_back l false hb
      have hkind : (recLd2 (byteL l false).1 (byteL l false).2.1 (byteL l false).2.2).1.kind = 2 := by show ((byteL l false).1 : Int) = 2; omega
      generalize recLd2 (byteL l false).1 (byteL l false).2.1 (byteL l false).2.2 = X at *
      rw [r] at k2 hl
      simp only at k2 hl
      rw [q, k2, hl]
      simp [bodyL, hkind]
    · by_cases k3 : (byteL l false).1 = 3
      · simp only [if_neg k1, if_neg k2, if_pos k3] at h hm ⊢
        obtain ⟨hb, hl⟩ := rec_back3 _ _ _ h
        obtain ⟨-, n, l', hn, q, r⟩ := byteL_back l false hb
        have hkind : (recLd3 (byteL l false).1 (byteL l false).2.1 (byteL l false).2.2).1.kind = 3 := by show ((byteL l false).1 : Int) = 3; omega
        generalize recLd3 (byteL l false).1 (byteL l false).2.1 (byteL l false).2.2 = X at *
        rw [r] at k3 hl
        simp only at k3 hl
        rw [q, k3, hl]
        simp [bodyL, hkind]
      · simp only [if_neg k1, if_neg k2, if_neg k3] at hm
        rcases rec_kind _ hm with h' | h' | h' <;> simp only at h' <;> omega
end Go.Proofs.Ytcbbnmodjnnbeaa
