/- Both readings take the same: plain lists. -/
import Derived.Test.YtcbbnmodjnnbeaaPack2
import Derived.Test.YtcbbnmodjnnbeaaDecProg2
set_option linter.unusedSimpArgs false
set_option linter.unusedVariables false
namespace Go.Proofs.Ytcbbnmodjnnbeaa

theorem cmd_back (l : List UInt8) (b : Bool) (t1 t2 t3 t7 : Nat × List UInt8 × Bool) (t4 t5 t6 : List UInt8 × List UInt8 × Bool) (e1 : t1 = byteL l b) (e2 : t2 = byteL t1.2.1 t1.2.2) (e3 : t3 = numL t2.2.1 t2.2.2)
    (e4 : t4 = textL t3.2.1 t3.2.2) (e5 : t5 = textL t4.2.1 t4.2.2) (e6 : t6 = textL t5.2.1 t5.2.2) (e7 : t7 = numL t6.2.1 t6.2.2) (h : t7.2.2 = false) :
    b = false ∧ l = cmdL ⟨t1.1, B t4.1, B t5.1, B t6.1, t7.1, t2.1, t3.1⟩ ++ t7.2.1 := by
  rw [e7] at h
  obtain ⟨h6, n7, l7, b7, q7, r7⟩ := numL_back _ _ h
  rw [r7] at e7
  rw [e6] at h6
  obtain ⟨h5, s6, l6, b6, q6, r6⟩ := textL_back _ _ h6
  rw [r6] at e6
  rw [e5] at h5
  obtain ⟨h4, s5, l5, b5, q5, r5⟩ := textL_back _ _ h5
  rw [r5] at e5
  rw [e4] at h4
  obtain ⟨h3, s4, l4, b4, q4, r4⟩ := textL_back _ _ h4
  rw [r4] at e4
  rw [e3] at h3
  obtain ⟨h2, n3, l3, b3, q3, r3⟩ := numL_back _ _ h3
  rw [r3] at e3
  rw [e2] at h2
  obtain ⟨h1, n2, l2, b2, q2, r2⟩ := byteL_back _ _ h2
  rw [r2] at e2
  rw [e1] at h1
  obtain ⟨h0, n1, l1, b1, q1, r1⟩ := byteL_back _ _ h1
  rw [r1] at e1
  clear r1 r2 r3 r4 r5 r6 r7 h1 h2 h3 h4 h5 h6
  rw [e1] at q2
  rw [e2] at q3
  rw [e3] at q4
  rw [e4] at q5
  rw [e5] at q6
  rw [e6] at q7
  rw [e1, e2, e3, e4, e5, e6, e7]
  clear e1 e2 e3 e4 e5 e6 e7
  simp only at q1 q2 q3 q4 q5 q6 q7 ⊢
  refine ⟨h0, ?_⟩
  rw [q1, q2, q3, q4, q5, q6, q7]
  simp only [cmdL, B_size, B_list, Int.toNat_natCast, List.append_assoc]
theorem cmd_back' (l : List UInt8) (b : Bool) (h : (cmdLd l b).2.2 = false) : b = false ∧ l = cmdL (cmdLd l b).1 ++ (cmdLd l b).2.1 := by
  simp only [cmdLd] at h ⊢
  generalize e1 : byteL l b = t1 at *
  generalize e2 : byteL t1.2.1 t1.2.2 = t2 at *
  generalize e3 : numL t2.2.1 t2.2.2 = t3 at *
  generalize e4 : textL t3.2.1 t3.2.2 = t4 at *
  generalize e5 : textL t4.2.1 t4.2.2 = t5 at *
  generalize e6 : textL t5.2.1 t5.2.2 = t6 at *
  generalize e7 : numL t6.2.1 t6.2.2 = t7 at *
  exact cmd_back l b t1 t2 t3 t7 t4 t5 t6 e1.symm e2.symm e3.symm e4.symm e5.symm e6.symm e7.symm h
theorem cmd_fwd (c : Cmd) (l : List UInt8) (h : CmdBd c) : cmdLd (cmdL c ++ l) false = (c, l, false) := by
  obtain ⟨k0, k4, s0, s8, q0, q1, key, val, old, r0, r1⟩ := h
  obtain ⟨kind, ck, cv, co, rev, ses, seq⟩ := c
  simp only at *
  obtain ⟨nk, rfl⟩ := Int.eq_ofNat_of_zero_le k0
  obtain ⟨ns, rfl⟩ := Int.eq_ofNat_of_zero_le s0
  obtain ⟨nq, rfl⟩ := Int.eq_ofNat_of_zero_le q0
  obtain ⟨nr, rfl⟩ := Int.eq_ofNat_of_zero_le r0
  simp only [cmdL, Int.toNat_natCast, List.append_assoc]
  unfold cmdLd
  simp only
  rw [byteL_fwd nk _ (by omega)]; simp only
  rw [byteL_fwd ns _ (by omega)]; simp only
  rw [numL_fwd nq _ (by omega)]; simp only
  rw [← len_data ck, textL_fwd _ _ (by rw [len_data]; omega)]; simp only
  rw [← len_data cv, textL_fwd _ _ (by rw [len_data]; omega)]; simp only
  rw [← len_data co, textL_fwd _ _ (by rw [len_data]; omega)]; simp only
  rw [numL_fwd nr _ (by omega)]
  simp only [B_eta]

theorem rec_fwd (r : Rec) (h : r.may = true) : recLd (bodyL r) false = (r, [], false) := by
  rcases rec_kind r h with hk | hk | hk
  · obtain ⟨a1, a2, a3, a4, a5, a6, a7, a8, a9, a10, a11⟩ := rec_bd1 r h hk
    obtain ⟨kind, gen, index, term, vote, many, cmd, data⟩ := r
    simp only at *
    subst hk a10 a11
    obtain ⟨ng, rfl⟩ := Int.eq_ofNat_of_zero_le (show 0 ≤ gen by omega)
    obtain ⟨ni, rfl⟩ := Int.eq_ofNat_of_zero_le a3
    obtain ⟨nt, rfl⟩ := Int.eq_ofNat_of_zero_le a5
    obtain ⟨nm, rfl⟩ := Int.eq_ofNat_of_zero_le a7
    simp only [bodyL, if_true, Int.toNat_natCast, List.append_assoc]
    unfold recLd
    rw [byteL_fwd 1 _ (by omega)]; simp only [if_true]
    unfold recLd1; simp only
    rw [numL_fwd ng _ (by omega)]; simp only
    rw [numL_fwd ni _ (by omega)]; simp only
    rw [numL_fwd nt _ (by omega)]; simp only
    rw [numL_fwd nm _ (by omega)]; simp only
    rw [← len_data data]
    have e := blockL_fwd data.data.toList [] (by rw [len_data]; omega)
    rw [List.append_nil] at e
    rw [e]
    simp only [B_eta]
    rfl
  · obtain ⟨a1, a2, a3, a4⟩ := rec_bd2 r h hk
    have hz : r = ⟨2, 0, 0, r.term, r.vote, 0, Cmd.zero, ByteArray.empty⟩ := by
      simp [Rec.may, hk, Cmd.same_iff, noB] at h
      obtain ⟨kind, gen, index, term, vote, many, cmd, data⟩ := r
      simp only at *
      simp [h, hk]
    rw [hz]
    generalize r.term = term at *
    generalize r.vote = vote at *
    clear hz hk h
    obtain ⟨nt, rfl⟩ := Int.eq_ofNat_of_zero_le a1
    obtain ⟨nv, hv⟩ := Int.eq_ofNat_of_zero_le (show 0 ≤ vote + 1 by omega)
    have hv' : vote = (nv : Int) - 1 := by omega
    subst hv'
    simp only [bodyL, Int.toNat_natCast, hv, List.append_assoc]
    rw [if_neg (by omega), if_pos trivial]
    unfold recLd
    rw [byteL_fwd 2 _ (by omega)]; simp only
    rw [if_neg (by omega), if_pos trivial]
    unfold recLd2; simp only
    rw [numL_fwd nt _ (by omega)]; simp only
    have e := byteL_fwd nv [] (by omega)
    rw [List.append_nil] at e
    rw [e]
    rfl
  · obtain ⟨a1, a2, a3, a4, a5⟩ := rec_bd3 r h hk
    have hc := cmd_bd r.cmd a5
    have hz : r = ⟨3, 0, r.index, r.term, 0, 0, r.cmd, ByteArray.empty⟩ := by
      simp [Rec.may, hk, noB] at h
      obtain ⟨kind, gen, index, term, vote, many, cmd, data⟩ := r
      simp only at *
      simp [h, hk]
    rw [hz]
    generalize r.term = term at *
    generalize r.index = index at *
    generalize r.cmd = cmd at *
    clear hz hk h
    obtain ⟨nt, rfl⟩ := Int.eq_ofNat_of_zero_le a3
    obtain ⟨ni, rfl⟩ := Int.eq_ofNat_of_zero_le (show 0 ≤ index by omega)
    simp only [bodyL, Int.toNat_natCast, List.append_assoc]
    rw [if_neg (by omega), if_neg (by omega)]
    unfold recLd
    rw [byteL_fwd 3 _ (by omega)]; simp only
    rw [if_neg (by omega), if_neg (by omega), if_pos trivial]
    unfold recLd3; simp only
    rw [numL_fwd ni _ (by omega)]; simp only
    rw [numL_fwd nt _ (by omega)]; simp only
    have e := cmd_fwd cmd [] hc
    rw [List.append_nil] at e
    rw [e]
    rfl

theorem rec_back1 (k : Nat) (l : List UInt8) (b : Bool) (hk : k = 1) (h : (recLd1 k l b).2 = ([], false)) : b = false ∧ l = be 3 (recLd1 k l b).1.gen.toNat ++ (be 3 (recLd1 k l b).1.index.toNat ++ (be 3 (recLd1 k l b).1.term.toNat ++ (be 3 (recLd1 k l b).1.many.toNat ++ (be 3 (recLd1 k l b).1.data.size ++ (recLd1 k l b).1.data.data.toList)))) := by
  simp only [recLd1] at h ⊢
  generalize e2 : numL l b = t2 at *
  generalize e3 : numL t2.2.1 t2.2.2 = t3 at *
  generalize e4 : numL t3.2.1 t3.2.2 = t4 at *
  generalize e5 : numL t4.2.1 t4.2.2 = t5 at *
  generalize e6 : blockL t5.2.1 t5.2.2 = t6 at *
  have h6 : (blockL t5.2.1 t5.2.2).2.2 = false := by rw [e6, h]
  obtain ⟨h5, s6, l6, b6, q6, r6⟩ := blockL_back _ _ h6
  rw [r6] at e6
  rw [← e5] at h5
  obtain ⟨h4, n5, l5, b5, q5, r5⟩ := numL_back _ _ h5
  rw [r5] at e5
  rw [← e4] at h4
  obtain ⟨h3, n4, l4, b4, q4, r4⟩ := numL_back _ _ h4
  rw [r4] at e4
  rw [← e3] at h3
  obtain ⟨h2, n3, l3, b3, q3, r3⟩ := numL_back _ _ h3
  rw [r3] at e3
  rw [← e2] at h2
  obtain ⟨h1, n2, l2, b2, q2, r2⟩ := numL_back _ _ h2
  rw [r2] at e2
  rw [← e2] at q3
  rw [← e3] at q4
  rw [← e4] at q5
  rw [← e5] at q6
  rw [← e6] at h
  rw [← e2, ← e3, ← e4, ← e5, ← e6]
  simp only at q2 q3 q4 q5 q6 h ⊢
  refine ⟨h1, ?_⟩
  have hl : l6 = [] := by injection h
  subst hl
  rw [q2, q3, q4, q5, q6]
  simp only [B_size, B_list, Int.toNat_natCast, List.append_nil]
theorem rec_back2 (k : Nat) (l : List UInt8) (b : Bool) (h : (recLd2 k l b).2 = ([], false)) : b = false ∧ l = be 3 (recLd2 k l b).1.term.toNat ++ be 1 ((recLd2 k l b).1.vote + 1).toNat := by
  simp only [recLd2] at h ⊢
  generalize e2 : numL l b = t2 at *
  generalize e3 : byteL t2.2.1 t2.2.2 = t3 at *
  have h3 : (byteL t2.2.1 t2.2.2).2.2 = false := by rw [e3, h]
  obtain ⟨h2, n3, l3, b3, q3, r3⟩ := byteL_back _ _ h3
  rw [r3] at e3
  rw [← e2] at h2
  obtain ⟨h1, n2, l2, b2, q2, r2⟩ := numL_back _ _ h2
  rw [r2] at e2
  rw [← e2] at q3
  rw [← e3] at h
  rw [← e2, ← e3]
  simp only at q2 q3 h ⊢
  refine ⟨h1, ?_⟩
  have hl : l3 = [] := by injection h
  subst hl
  rw [q2, q3]
  simp only [Int.toNat_natCast, List.append_nil, Int.sub_add_cancel]
theorem rec_back3 (k : Nat) (l : List UInt8) (b : Bool) (h : (recLd3 k l b).2 = ([], false)) : b = false ∧ l = be 3 (recLd3 k l b).1.index.toNat ++ (be 3 (recLd3 k l b).1.term.toNat ++ cmdL (recLd3 k l b).1.cmd) := by
  simp only [recLd3] at h ⊢
  generalize e2 : numL l b = t2 at *
  generalize e3 : numL t2.2.1 t2.2.2 = t3 at *
  have h4 : (cmdLd t3.2.1 t3.2.2).2.2 = false := by rw [h]
  obtain ⟨h3, q4⟩ := cmd_back' _ _ h4
  rw [h] at q4
  rw [← e3] at h3
  obtain ⟨h2, n3, l3, b3, q3, r3⟩ := numL_back _ _ h3
  rw [r3] at e3
  rw [← e2] at h2
  obtain ⟨h1, n2, l2, b2, q2, r2⟩ := numL_back _ _ h2
  rw [r2] at e2
  rw [← e2] at q3
  refine ⟨h1, ?_⟩
  generalize cmdLd t3.2.1 t3.2.2 = t4 at *
  rw [← e3] at q4 ⊢
  rw [← e2]
  simp only at q2 q3 q4 ⊢
  rw [q2, q3, q4]
  simp only [Int.toNat_natCast, List.append_nil]

theorem rec_back (l : List UInt8) (h : (recLd l false).2 = ([], false)) (hm : (recLd l false).1.may = true) : bodyL (recLd l false).1 = l := by
  unfold recLd at h hm ⊢
  by_cases k1 : (byteL l false).1 = 1
  · simp only [if_pos k1] at h hm ⊢
    obtain ⟨hb, hl⟩ := rec_back1 _ _ _ k1 h
    obtain ⟨-, n, l', hn, q, r⟩ := byteL_back l false hb
    have hkind : (recLd1 (byteL l false).1 (byteL l false).2.1 (byteL l false).2.2).1.kind = 1 := by rw [← Int.ofNat_one, ← k1]; rfl
    generalize recLd1 (byteL l false).1 (byteL l false).2.1 (byteL l false).2.2 = X at *
    rw [r] at k1 hl
    simp only at k1 hl
    rw [q, k1, hl]
    simp only [bodyL, hkind, if_true, List.append_assoc]
  · by_cases k2 : (byteL l false).1 = 2
    · simp only [if_neg k1, if_pos k2] at h hm ⊢
      obtain ⟨hb, hl⟩ := rec_back2 _ _ _ h
      obtain ⟨-, n, l', hn, q, r⟩ := byteL_back l false hb
      have hkind : (recLd2 (byteL l false).1 (byteL l false).2.1 (byteL l false).2.2).1.kind = 2 := by show ((byteL l false).1 : Int) = 2; omega
      generalize recLd2 (byteL l false).1 (byteL l false).2.1 (byteL l false).2.2 = X at *
      rw [r] at k2 hl
      simp only at k2 hl
      rw [q, k2, hl]
      simp [bodyL, hkind]
    · by_cases k3 : (byteL l false).1 = 3
      · simp only [if_neg k1, if_neg k2, if_pos k3] at h hm ⊢
        obtain ⟨hb, hl⟩ := rec_back3 _ _ _ h
        obtain ⟨-, n, l', hn, q, r⟩ := byteL_back l false hb
        have hkind : (recLd3 (byteL l false).1 (byteL l false).2.1 (byteL l false).2.2).1.kind = 3 := by show ((byteL l false).1 : Int) = 3; omega
        generalize recLd3 (byteL l false).1 (byteL l false).2.1 (byteL l false).2.2 = X at *
        rw [r] at k3 hl
        simp only at k3 hl
        rw [q, k3, hl]
        simp [bodyL, hkind]
      · simp only [if_neg k1, if_neg k2, if_neg k3] at hm
        rcases rec_kind _ hm with h' | h' | h' <;> simp only at h' <;> omega
end Go.Proofs.Ytcbbnmodjnnbeaa
/- Both Decodes come to the same. -/
set_option linter.unusedSimpArgs false
set_option linter.unusedVariables false
namespace Go.Proofs.Ytcbbnmodjnnbeaa

theorem rd_app1 (P Q : List UInt8) (p n : Nat) (hP : P.length = p) (h : n < 256) : rd (P ++ (be 1 n ++ Q)) p 1 = n := by
  subst hP
  rw [be1 n h]
  simp [rd, toNat_of n h]
theorem rd_app3 (P Q : List UInt8) (p n : Nat) (hP : P.length = p) (h : n < 16777216) : rd (P ++ (be 3 n ++ Q)) p 3 = n := by
  subst hP
  rw [be3 n h]
  have g0 : (P ++ ([UInt8.ofNat (n / 65536), UInt8.ofNat (n / 256 % 256), UInt8.ofNat (n % 256)] ++ Q))[P.length + 0]? = some (UInt8.ofNat (n / 65536)) := by simp
  have g1 : (P ++ ([UInt8.ofNat (n / 65536), UInt8.ofNat (n / 256 % 256), UInt8.ofNat (n % 256)] ++ Q))[P.length + 1]? = some (UInt8.ofNat (n / 256 % 256)) := by
    rw [List.getElem?_append_right (by omega)]; simp
  have g2 : (P ++ ([UInt8.ofNat (n / 65536), UInt8.ofNat (n / 256 % 256), UInt8.ofNat (n % 256)] ++ Q))[P.length + 2]? = some (UInt8.ofNat (n % 256)) := by
    rw [List.getElem?_append_right (by omega)]; simp
  simp only [rd, g0, g1, g2, Option.getD_some]
  rw [toNat_of _ (by omega), toNat_of _ (by omega), toNat_of _ (by omega)]
  omega
theorem cut_app (P d Q : List UInt8) (p : Nat) (hP : P.length = p) : cutL (P ++ (d ++ Q)) p d.length = d := by
  subst hP
  unfold cutL
  rw [if_neg (by simp), List.drop_left, List.take_left]

theorem cmdRd_app (P Q : List UInt8) (c : Cmd) (h : CmdBd c) (hP : P.length = 7) : cmdRd (P ++ (cmdL c ++ Q)) 7 = c := by
  obtain ⟨k0, k4, s0, s8, q0, q1, key, val, old, r0, r1⟩ := h
  obtain ⟨kind, ck, cv, co, rev, ses, seq⟩ := c
  simp only at *
  obtain ⟨nk, rfl⟩ := Int.eq_ofNat_of_zero_le k0
  obtain ⟨ns, rfl⟩ := Int.eq_ofNat_of_zero_le s0
  obtain ⟨nq, rfl⟩ := Int.eq_ofNat_of_zero_le q0
  obtain ⟨nr, rfl⟩ := Int.eq_ofNat_of_zero_le r0
  have lk := len_data ck
  have lv := len_data cv
  have lo := len_data co
  generalize hL : P ++ (cmdL ⟨nk, ck, cv, co, nr, ns, nq⟩ ++ Q) = L
  simp only [cmdL, Int.toNat_natCast, List.append_assoc] at hL
  have e1 : rd L 7 1 = nk := by rw [← hL]; exact rd_app1 P _ 7 nk hP (by omega)
  have e2 : rd L 8 1 = ns := by
    rw [← hL, ← List.append_assoc]; exact rd_app1 (P ++ be 1 nk) _ 8 ns (by simp [hP, be_length]) (by omega)
  have e3 : rd L 9 3 = nq := by
    rw [← hL, ← List.append_assoc, ← List.append_assoc]; exact rd_app3 (P ++ be 1 nk ++ be 1 ns) _ 9 nq (by simp [hP, be_length]) (by omega)
  have e4 : rd L 12 1 = ck.size := by
    rw [← hL, ← List.append_assoc, ← List.append_assoc, ← List.append_assoc]; exact rd_app1 (P ++ be 1 nk ++ be 1 ns ++ be 3 nq) _ 12 ck.size (by simp [hP, be_length]) (by omega)
  have e5 : cutL L 13 ck.size = ck.data.toList := by
    rw [← hL, ← List.append_assoc, ← List.append_assoc, ← List.append_assoc, ← List.append_assoc, ← lk]
    exact cut_app (P ++ be 1 nk ++ be 1 ns ++ be 3 nq ++ be 1 ck.data.toList.length) _ _ 13 (by simp [hP, be_length])
  have e6 : rd L (13 + ck.size) 1 = cv.size := by
    rw [← hL, ← List.append_assoc, ← List.append_assoc, ← List.append_assoc, ← List.append_assoc, ← List.append_assoc]
    exact rd_app1 (P ++ be 1 nk ++ be 1 ns ++ be 3 nq ++ be 1 ck.size ++ ck.data.toList) _ _ cv.size (by simp only [List.length_append, hP, be_length, lk]) (by omega)
  have e7 : cutL L (13 + ck.size + 1) cv.size = cv.data.toList := by
    rw [← hL, ← List.append_assoc, ← List.append_assoc, ← List.append_assoc, ← List.append_assoc, ← List.append_assoc, ← List.append_assoc, ← lv]
    exact cut_app (P ++ be 1 nk ++ be 1 ns ++ be 3 nq ++ be 1 ck.size ++ ck.data.toList ++ be 1 cv.data.toList.length) _ _ _ (by simp only [List.length_append, hP, be_length, lk])
  have e8 : rd L (13 + ck.size + 1 + cv.size) 1 = co.size := by
    rw [← hL, ← List.append_assoc, ← List.append_assoc, ← List.append_assoc, ← List.append_assoc, ← List.append_assoc, ← List.append_assoc, ← List.append_assoc]
    exact rd_app1 (P ++ be 1 nk ++ be 1 ns ++ be 3 nq ++ be 1 ck.size ++ ck.data.toList ++ be 1 cv.size ++ cv.data.toList) _ _ co.size (by simp only [List.length_append, hP, be_length, lk, lv]) (by omega)
  have e9 : cutL L (13 + ck.size + 1 + cv.size + 1) co.size = co.data.toList := by
    rw [← hL, ← List.append_assoc, ← List.append_assoc, ← List.append_assoc, ← List.append_assoc, ← List.append_assoc, ← List.append_assoc, ← List.append_assoc, ← List.append_assoc, ← lo]
    exact cut_app (P ++ be 1 nk ++ be 1 ns ++ be 3 nq ++ be 1 ck.size ++ ck.data.toList ++ be 1 cv.size ++ cv.data.toList ++ be 1 co.data.toList.length) _ _ _ (by simp only [List.length_append, hP, be_length, lk, lv])
  have e10 : rd L (13 + ck.size + 1 + cv.size + 1 + co.size) 3 = nr := by
    rw [← hL, ← List.append_assoc, ← List.append_assoc, ← List.append_assoc, ← List.append_assoc, ← List.append_assoc, ← List.append_assoc, ← List.append_assoc, ← List.append_assoc, ← List.append_assoc]
    exact rd_app3 (P ++ be 1 nk ++ be 1 ns ++ be 3 nq ++ be 1 ck.size ++ ck.data.toList ++ be 1 cv.size ++ cv.data.toList ++ be 1 co.size ++ co.data.toList) _ _ nr (by simp only [List.length_append, hP, be_length, lk, lv, lo]) (by omega)
  simp only [cmdRd, Nat.reduceAdd, e1, e2, e3, e4, e5, e6, e7, e8, e9, e10, B_eta]

theorem refRd_enc (r : Rec) (h : r.may = true) : refRd (encL r) = r := by
  rcases rec_kind r h with hk | hk | hk
  · obtain ⟨a1, a2, a3, a4, a5, a6, a7, a8, a9, a10, a11⟩ := rec_bd1 r h hk
    unfold encL
    generalize be 4 (By.sum (bodyL r)) = S
    obtain ⟨kind, gen, index, term, vote, many, cmd, data⟩ := r
    simp only at *
    subst hk a10 a11
    obtain ⟨ng, rfl⟩ := Int.eq_ofNat_of_zero_le (show 0 ≤ gen by omega)
    obtain ⟨ni, rfl⟩ := Int.eq_ofNat_of_zero_le a3
    obtain ⟨nt, rfl⟩ := Int.eq_ofNat_of_zero_le a5
    obtain ⟨nm, rfl⟩ := Int.eq_ofNat_of_zero_le a7
    have ld := len_data data
    generalize hL : bodyL ⟨1, ng, ni, nt, 0, nm, Cmd.zero, data⟩ ++ S = L
    simp only [bodyL, if_true, Int.toNat_natCast, List.append_assoc] at hL
    have e0 : rd L 0 1 = 1 := by rw [← hL]; exact rd_app1 [] _ 0 1 rfl (by omega)
    have e1 : rd L 1 3 = ng := by rw [← hL]; exact rd_app3 (be 1 1) _ 1 ng (be_length _ _) (by omega)
    have e2 : rd L 4 3 = ni := by
      rw [← hL, ← List.append_assoc]; exact rd_app3 (be 1 1 ++ be 3 ng) _ 4 ni (by simp [be_length]) (by omega)
    have e3 : rd L 7 3 = nt := by
      rw [← hL, ← List.append_assoc, ← List.append_assoc]; exact rd_app3 (be 1 1 ++ be 3 ng ++ be 3 ni) _ 7 nt (by simp [be_length]) (by omega)
    have e4 : rd L 10 3 = nm := by
      rw [← hL, ← List.append_assoc, ← List.append_assoc, ← List.append_assoc]; exact rd_app3 (be 1 1 ++ be 3 ng ++ be 3 ni ++ be 3 nt) _ 10 nm (by simp [be_length]) (by omega)
    have e5 : rd L 13 3 = data.size := by
      rw [← hL, ← List.append_assoc, ← List.append_assoc, ← List.append_assoc, ← List.append_assoc]; exact rd_app3 (be 1 1 ++ be 3 ng ++ be 3 ni ++ be 3 nt ++ be 3 nm) _ 13 data.size (by simp [be_length]) (by omega)
    have e6 : cutL L 16 data.size = data.data.toList := by
      rw [← hL, ← List.append_assoc, ← List.append_assoc, ← List.append_assoc, ← List.append_assoc, ← List.append_assoc, ← ld]
      exact cut_app (be 1 1 ++ be 3 ng ++ be 3 ni ++ be 3 nt ++ be 3 nm ++ be 3 data.data.toList.length) _ _ 16 (by simp [be_length])
    simp only [refRd, e0, if_true, e1, e2, e3, e4, e5, e6, B_eta]
  · obtain ⟨a1, a2, a3, a4⟩ := rec_bd2 r h hk
    unfold encL
    generalize be 4 (By.sum (bodyL r)) = S
    have hz : r = ⟨2, 0, 0, r.term, r.vote, 0, Cmd.zero, ByteArray.empty⟩ := by
      simp [Rec.may, hk, Cmd.same_iff, noB] at h
      obtain ⟨kind, gen, index, term, vote, many, cmd, data⟩ := r
      simp only at *
      simp [h, hk]
    rw [hz]
    generalize r.term = term at *
    generalize r.vote = vote at *
    clear hz hk h
    obtain ⟨nt, rfl⟩ := Int.eq_ofNat_of_zero_le a1
    obtain ⟨nv, hv⟩ := Int.eq_ofNat_of_zero_le (show 0 ≤ vote + 1 by omega)
    have hv' : vote = (nv : Int) - 1 := by omega
    subst hv'
    generalize hL : bodyL ⟨2, 0, 0, nt, (nv : Int) - 1, 0, Cmd.zero, ByteArray.empty⟩ ++ S = L
    simp only [bodyL, Int.toNat_natCast, hv, List.append_assoc] at hL
    rw [if_neg (by omega), if_pos trivial] at hL
    simp only [List.append_assoc] at hL
    have e0 : rd L 0 1 = 2 := by rw [← hL]; exact rd_app1 [] _ 0 2 rfl (by omega)
    have e1 : rd L 1 3 = nt := by rw [← hL]; exact rd_app3 (be 1 2) _ 1 nt (be_length _ _) (by omega)
    have e2 : rd L 4 1 = nv := by
      rw [← hL, ← List.append_assoc]; exact rd_app1 (be 1 2 ++ be 3 nt) _ 4 nv (by simp [be_length]) (by omega)
    unfold refRd
    rw [e0, if_neg (by omega), if_pos rfl, e1, e2]
    rfl
  · obtain ⟨a1, a2, a3, a4, a5⟩ := rec_bd3 r h hk
    have hc := cmd_bd r.cmd a5
    unfold encL
    generalize be 4 (By.sum (bodyL r)) = S
    have hz : r = ⟨3, 0, r.index, r.term, 0, 0, r.cmd, ByteArray.empty⟩ := by
      simp [Rec.may, hk, noB] at h
      obtain ⟨kind, gen, index, term, vote, many, cmd, data⟩ := r
      simp only at *
      simp [h, hk]
    rw [hz]
    generalize r.term = term at *
    generalize r.index = index at *
    generalize r.cmd = cmd at *
    clear hz hk h
    obtain ⟨nt, rfl⟩ := Int.eq_ofNat_of_zero_le a3
    obtain ⟨ni, rfl⟩ := Int.eq_ofNat_of_zero_le (show 0 ≤ index by omega)
    generalize hL : bodyL ⟨3, 0, ni, nt, 0, 0, cmd, ByteArray.empty⟩ ++ S = L
    simp only [bodyL, Int.toNat_natCast, List.append_assoc] at hL
    rw [if_neg (by omega), if_neg (by omega)] at hL
    simp only [List.append_assoc] at hL
    have e0 : rd L 0 1 = 3 := by rw [← hL]; exact rd_app1 [] _ 0 3 rfl (by omega)
    have e1 : rd L 1 3 = ni := by rw [← hL]; exact rd_app3 (be 1 3) _ 1 ni (be_length _ _) (by omega)
    have e2 : rd L 4 3 = nt := by
      rw [← hL, ← List.append_assoc]; exact rd_app3 (be 1 3 ++ be 3 ni) _ 4 nt (by simp [be_length]) (by omega)
    have e3 : cmdRd L 7 = cmd := by
      rw [← hL, ← List.append_assoc, ← List.append_assoc]; exact cmdRd_app (be 1 3 ++ be 3 ni ++ be 3 nt) S cmd hc (by simp [be_length])
    unfold refRd
    rw [e0, if_neg (by omega), if_neg (by omega), if_pos rfl, e1, e2, e3]
    rfl

theorem decR_enc (r : Rec) (h : r.may = true) : decR (encL r) = (r, 0) := by
  unfold decR; rw [refRd_enc r h, if_pos ⟨h, rfl⟩]
theorem decP_enc (r : Rec) (h : r.may = true) : decP (encL r) = (r, 0) := by
  have hl : (encL r).length - 4 = (bodyL r).length := by unfold encL; rw [List.length_append, be_length]; omega
  unfold decP
  rw [hl, if_neg (by unfold encL; rw [List.length_append, be_length]; omega)]
  unfold encL
  rw [List.take_left, List.drop_left, if_neg (by simp), rec_fwd r h, if_pos ⟨rfl, h⟩]
theorem dec_same (L : List UInt8) : decP L = decR L := by
  by_cases hex : ∃ r, Rec.may r = true ∧ encL r = L
  · obtain ⟨r, hm, rfl⟩ := hex
    rw [decP_enc r hm, decR_enc r hm]
  · have h1 : decR L = (Rec.zero, 10) := by
      unfold decR; rw [if_neg (fun h => hex ⟨_, h⟩)]
    rw [h1]
    unfold decP
    by_cases h4 : L.length < 4
    · rw [if_pos h4]
    · rw [if_neg h4]
      by_cases hs : L.drop (L.length - 4) = be 4 (By.sum (L.take (L.length - 4)))
      · rw [if_neg (fun h => h hs)]
        by_cases hr : (recLd (L.take (L.length - 4)) false).2 = ([], false) ∧ (recLd (L.take (L.length - 4)) false).1.may = true
        · exfalso
          refine hex ⟨_, hr.2, ?_⟩
          have hb := rec_back _ hr.1 hr.2
          unfold encL
          rw [hb, ← hs, List.take_append_drop]
        · rw [if_neg hr]
      · rw [if_pos hs]
end Go.Proofs.Ytcbbnmodjnnbeaa
