/- Both readings take the same: plain lists. -/
import Derived.Test.YtcbbnmodjnnbeaaPack2
import Derived.Test.YtcbbnmodjnnbeaaDecProg
import Derived.Test.YtcbbnmodjnnbeaaRefFind
set_option linter.unusedSimpArgs false
set_option linter.unusedVariables false
namespace Go.Proofs.Ytcbbnmodjnnbeaa

theorem cmd_back (l : List UInt8) (b : Bool) (t1 t2 t3 t7 : Nat × List UInt8 × Bool) (t4 t5 t6 : List UInt8 × List UInt8 × Bool) (e1 : t1 = byteL l b) (e2 : t2 = byteL t1.2.1 t1.2.2) (e3 : t3 = numL t2.2.1 t2.2.2)
    (e4 : t4 = textL t3.2.1 t3.2.2) (e5 : t5 = textL t4.2.1 t4.2.2) (e6 : t6 = textL t5.2.1 t5.2.2) (e7 : t7 = numL t6.2.1 t6.2.2) (h : t7.2.2 = false) :
    b = false ∧ l = cmdL ⟨t1.1, B t4.1, B t5.1, B t6.1, t7.1, t2.1, t3.1⟩ ++ t7.2.1 := by
  rw [e7] at h
  obtain ⟨h6, n7, l7, b7, q7, r7⟩ := numL_back _ _ h
  rw [r7] at e7
  rw [e6] at h6
  obtain ⟨h5, s6, l6, b6, q6, r6⟩ := textL_back _ _ h6
  rw [r6] at e6
  rw [e5] at h5
  obtain ⟨h4, s5, l5, b5, q5, r5⟩ := textL_back _ _ h5
  rw [r5] at e5
  rw [e4] at h4
  obtain ⟨h3, s4, l4, b4, q4, r4⟩ := textL_back _ _ h4
  rw [r4] at e4
  rw [e3] at h3
  obtain ⟨h2, n3, l3, b3, q3, r3⟩ := numL_back _ _ h3
  rw [r3] at e3
  rw [e2] at h2
  obtain ⟨h1, n2, l2, b2, q2, r2⟩ := byteL_back _ _ h2
  rw [r2] at e2
  rw [e1] at h1
  obtain ⟨h0, n1, l1, b1, q1, r1⟩ := byteL_back _ _ h1
  rw [r1] at e1
  clear r1 r2 r3 r4 r5 r6 r7 h1 h2 h3 h4 h5 h6
  rw [e1] at q2
  rw [e2] at q3
  rw [e3] at q4
  rw [e4] at q5
  rw [e5] at q6
  rw [e6] at q7
  rw [e1, e2, e3, e4, e5, e6, e7]
  clear e1 e2 e3 e4 e5 e6 e7
  simp only at q1 q2 q3 q4 q5 q6 q7 ⊢
  refine ⟨h0, ?_⟩
  rw [q1, q2, q3, q4, q5, q6, q7]
  simp only [cmdL, B_size, B_list, Int.toNat_natCast, List.append_assoc]
theorem cmd_back' (l : List UInt8) (b : Bool) (h : (cmdLd l b).2.2 = false) : b = false ∧ l = cmdL (cmdLd l b).1 ++ (cmdLd l b).2.1 := by
  simp only [cmdLd] at h ⊢
  generalize e1 : byteL l b = t1 at *
  generalize e2 : byteL t1.2.1 t1.2.2 = t2 at *
  generalize e3 : numL t2.2.1 t2.2.2 = t3 at *
  generalize e4 : textL t3.2.1 t3.2.2 = t4 at *
  generalize e5 : textL t4.2.1 t4.2.2 = t5 at *
  generalize e6 : textL t5.2.1 t5.2.2 = t6 at *
  generalize e7 : numL t6.2.1 t6.2.2 = t7 at *
  exact cmd_back l b t1 t2 t3 t7 t4 t5 t6 e1.symm e2.symm e3.symm e4.symm e5.symm e6.symm e7.symm h
theorem cmd_fwd (c : Cmd) (l : List UInt8) (h : CmdBd c) : cmdLd (cmdL c ++ l) false = (c, l, false) := by
  obtain ⟨k0, k4, s0, s8, q0, q1, key, val, old, r0, r1⟩ := h
  obtain ⟨kind, ck, cv, co, rev, ses, seq⟩ := c
  simp only at *
  obtain ⟨nk, rfl⟩ := Int.eq_ofNat_of_zero_le k0
  obtain ⟨ns, rfl⟩ := Int.eq_ofNat_of_zero_le s0
  obtain ⟨nq, rfl⟩ := Int.eq_ofNat_of_zero_le q0
  obtain ⟨nr, rfl⟩ := Int.eq_ofNat_of_zero_le r0
  simp only [cmdL, Int.toNat_natCast, List.append_assoc]
  unfold cmdLd
  simp only
  rw [byteL_fwd nk _ (by omega)]; simp only
  rw [byteL_fwd ns _ (by omega)]; simp only
  rw [numL_fwd nq _ (by omega)]; simp only
  rw [← len_data ck, textL_fwd _ _ (by rw [len_data]; omega)]; simp only
  rw [← len_data cv, textL_fwd _ _ (by rw [len_data]; omega)]; simp only
  rw [← len_data co, textL_fwd _ _ (by rw [len_data]; omega)]; simp only
  rw [numL_fwd nr _ (by omega)]
  simp only [B_eta]

theorem rec_fwd (r : Rec) (h : r.may = true) : recLd (bodyL r) false = (r, [], false) := by
  rcases rec_kind r h with hk | hk | hk
  · obtain ⟨a1, a2, a3, a4, a5, a6, a7, a8, a9, a10, a11⟩ := rec_bd1 r h hk
    obtain ⟨kind, gen, index, term, vote, many, cmd, data⟩ := r
    simp only at *
    subst hk a10 a11
    obtain ⟨ng, rfl⟩ := Int.eq_ofNat_of_zero_le (show 0 ≤ gen by omega)
    obtain ⟨ni, rfl⟩ := Int.eq_ofNat_of_zero_le a3
    obtain ⟨nt, rfl⟩ := Int.eq_ofNat_of_zero_le a5
    obtain ⟨nm, rfl⟩ := Int.eq_ofNat_of_zero_le a7
    simp only [bodyL, if_true, Int.toNat_natCast, List.append_assoc]
    unfold recLd
    rw [byteL_fwd 1 _ (by omega)]; simp only [if_true]
    unfold recLd1; simp only
    rw [numL_fwd ng _ (by omega)]; simp only
    rw [numL_fwd ni _ (by omega)]; simp only
    rw [numL_fwd nt _ (by omega)]; simp only
    rw [numL_fwd nm _ (by omega)]; simp only
    rw [← len_data data]
    have e := blockL_fwd data.data.toList [] (by rw [len_data]; omega)
    rw [List.append_nil] at e
    rw [e]
    simp only [B_eta]
    rfl
  · obtain ⟨a1, a2, a3, a4⟩ := rec_bd2 r h hk
    have hz : r = ⟨2, 0, 0, r.term, r.vote, 0, Cmd.zero, ByteArray.empty⟩ := by
      simp [Rec.may, hk, Cmd.same_iff, noB] at h
      obtain ⟨kind, gen, index, term, vote, many, cmd, data⟩ := r
      simp only at *
      simp [h, hk]
    rw [hz]
    generalize r.term = term at *
    generalize r.vote = vote at *
    clear hz hk h
    obtain ⟨nt, rfl⟩ := Int.eq_ofNat_of_zero_le a1
    obtain ⟨nv, hv⟩ := Int.eq_ofNat_of_zero_le (show 0 ≤ vote + 1 by omega)
    have hv' : vote = (nv : Int) - 1 := by omega
    subst hv'
    simp only [bodyL, Int.toNat_natCast, hv, List.append_assoc]
    rw [if_neg (by omega), if_pos trivial]
    unfold recLd
    rw [byteL_fwd 2 _ (by omega)]; simp only
    rw [if_neg (by omega), if_pos trivial]
    unfold recLd2; simp only
    rw [numL_fwd nt _ (by omega)]; simp only
    have e := byteL_fwd nv [] (by omega)
    rw [List.append_nil] at e
    rw [e]
    rfl
  · obtain ⟨a1, a2, a3, a4, a5⟩ := rec_bd3 r h hk
    have hc := cmd_bd r.cmd a5
    have hz : r = ⟨3, 0, r.index, r.term, 0, 0, r.cmd, ByteArray.empty⟩ := by
      simp [Rec.may, hk, noB] at h
      obtain ⟨kind, gen, index, term, vote, many, cmd, data⟩ := r
      simp only at *
      simp [h, hk]
    rw [hz]
    generalize r.term = term at *
    generalize r.index = index at *
    generalize r.cmd = cmd at *
    clear hz hk h
    obtain ⟨nt, rfl⟩ := Int.eq_ofNat_of_zero_le a3
    obtain ⟨ni, rfl⟩ := Int.eq_ofNat_of_zero_le (show 0 ≤ index by omega)
    simp only [bodyL, Int.toNat_natCast, List.append_assoc]
    rw [if_neg (by omega), if_neg (by omega)]
    unfold recLd
    rw [byteL_fwd 3 _ (by omega)]; simp only
    rw [if_neg (by omega), if_neg (by omega), if_pos trivial]
    unfold recLd3; simp only
    rw [numL_fwd ni _ (by omega)]; simp only
    rw [numL_fwd nt _ (by omega)]; simp only
    have e := cmd_fwd cmd [] hc
    rw [List.append_nil] at e
    rw [e]
    rfl

theorem rec_back1 (k : Nat) (l : List UInt8) (b : Bool) (hk : k = 1) (h : (recLd1 k l b).2 = ([], false)) : b = false ∧ l = be 3 (recLd1 k l b).1.gen.toNat ++ (be 3 (recLd1 k l b).1.index.toNat ++ (be 3 (recLd1 k l b).1.term.toNat ++ (be 3 (recLd1 k l b).1.many.toNat ++ (be 3 (recLd1 k l b).1.data.size ++ (recLd1 k l b).1.data.data.toList)))) := by
  simp only [recLd1] at h ⊢
  generalize e2 : numL l b = t2 at *
  generalize e3 : numL t2.2.1 t2.2.2 = t3 at *
  generalize e4 : numL t3.2.1 t3.2.2 = t4 at *
  generalize e5 : numL t4.2.1 t4.2.2 = t5 at *
  generalize e6 : blockL t5.2.1 t5.2.2 = t6 at *
  have h6 : (blockL t5.2.1 t5.2.2).2.2 = false := by rw [e6, h]
  obtain ⟨h5, s6, l6, b6, q6, r6⟩ := blockL_back _ _ h6
  rw [r6] at e6
  rw [← e5] at h5
  obtain ⟨h4, n5, l5, b5, q5, r5⟩ := numL_back _ _ h5
  rw [r5] at e5
  rw [← e4] at h4
  obtain ⟨h3, n4, l4, b4, q4, r4⟩ := numL_back _ _ h4
  rw [r4] at e4
  rw [← e3] at h3
  obtain ⟨h2, n3, l3, b3, q3, r3⟩ := numL_back _ _ h3
  rw [r3] at e3
  rw [← e2] at h2
  obtain ⟨h1, n2, l2, b2, q2, r2⟩ := numL_back _ _ h2
  rw [r2] at e2
  rw [← e2] at q3
  rw [← e3] at q4
  rw [← e4] at q5
  rw [← e5] at q6
  rw [← e6] at h
  rw [← e2, ← e3, ← e4, ← e5, ← e6]
  simp only at q2 q3 q4 q5 q6 h ⊢
  refine ⟨h1, ?_⟩
  have hl : l6 = [] := by injection h
  subst hl
  rw [q2, q3, q4, q5, q6]
  simp only [B_size, B_list, Int.toNat_natCast, List.append_nil]
theorem rec_back2 (k : Nat) (l : List UInt8) (b : Bool) (h : (recLd2 k l b).2 = ([], false)) : b = false ∧ l = be 3 (recLd2 k l b).1.term.toNat ++ be 1 ((recLd2 k l b).1.vote + 1).toNat := by
  simp only [recLd2] at h ⊢
  generalize e2 : numL l b = t2 at *
  generalize e3 : byteL t2.2.1 t2.2.2 = t3 at *
  have h3 : (byteL t2.2.1 t2.2.2).2.2 = false := by rw [e3, h]
  obtain ⟨h2, n3, l3, b3, q3, r3⟩ := byteL_back _ _ h3
  rw [r3] at e3
  rw [← e2] at h2
  obtain ⟨h1, n2, l2, b2, q2, r2⟩ := numL_back _ _ h2
  rw [r2] at e2
  rw [← e2] at q3
  rw [← e3] at h
  rw [← e2, ← e3]
  simp only at q2 q3 h ⊢
  refine ⟨h1, ?_⟩
  have hl : l3 = [] := by injection h
  subst hl
  rw [q2, q3]
  simp only [Int.toNat_natCast, List.append_nil, Int.sub_add_cancel]
theorem rec_back3 (k : Nat) (l : List UInt8) (b : Bool) (h : (recLd3 k l b).2 = ([], false)) : b = false ∧ l = be 3 (recLd3 k l b).1.index.toNat ++ (be 3 (recLd3 k l b).1.term.toNat ++ cmdL (recLd3 k l b).1.cmd) := by
  simp only [recLd3] at h ⊢
  generalize e2 : numL l b = t2 at *
  generalize e3 : numL t2.2.1 t2.2.2 = t3 at *
  have h4 : (cmdLd t3.2.1 t3.2.2).2.2 = false := by rw [h]
  obtain ⟨h3, q4⟩ := cmd_back' _ _ h4
  rw [h] at q4
  rw [← e3] at h3
  obtain ⟨h2, n3, l3, b3, q3, r3⟩ := numL_back _ _ h3
  rw [r3] at e3
  rw [← e2] at h2
  obtain ⟨h1, n2, l2, b2, q2, r2⟩ := numL_back _ _ h2
  rw [r2] at e2
  rw [← e2] at q3
  refine ⟨h1, ?_⟩
  generalize cmdLd t3.2.1 t3.2.2 = t4 at *
  rw [← e3] at q4 ⊢
  rw [← e2]
  simp only at q2 q3 q4 ⊢
  rw [q2, q3, q4]
  simp only [Int.toNat_natCast, List.append_nil]

theorem rec_back (l : List UInt8) (h : (recLd l false).2 = ([], false)) (hm : (recLd l false).1.may = true) : bodyL (recLd l false).1 = l := by
  unfold recLd at h hm ⊢
  by_cases k1 : (byteL l false).1 = 1
  · simp only [if_pos k1] at h hm ⊢
    obtain ⟨hb, hl⟩ := rec_back1 _ _ _ k1 h
    obtain ⟨-, n, l', hn, q, r⟩ := byteL_back l false hb
    have hkind : (recLd1 (byteL l false).1 (byteL l false).2.1 (byteL l false).2.2).1.kind = 1 := by rw [← Int.ofNat_one, ← k1]; rfl
    generalize recLd1 (byteL l false).1 (byteL l false).2.1 (byteL l false).2.2 = X at *
    rw [r] at k1 hl
    simp only at k1 hl
    rw [q, k1, hl]
    simp only [bodyL, hkind, if_true, List.append_assoc]
  · by_cases k2 : (byteL l false).1 = 2
    · simp only [if_neg k1, if_pos k2] at h hm ⊢
      obtain ⟨hb, hl⟩ := rec_back2 _ _ _ h
      obtain ⟨-, n, l', hn, q, r⟩ := byteL_back l false hb
      have hkind : (recLd2 (byteL l false).1 (byteL l false).2.1 (byteL l false).2.2).1.kind = 2 := by show ((byteL l false).1 : Int) = 2; omega
      generalize recLd2 (byteL l false).1 (byteL l false).2.1 (byteL l false).2.2 = X at *
      rw [r] at k2 hl
      simp only at k2 hl
      rw [q, k2, hl]
      simp [bodyL, hkind]
    · by_cases k3 : (byteL l false).1 = 3
      · simp only [if_neg k1, if_neg k2, if_pos k3] at h hm ⊢
        obtain ⟨hb, hl⟩ := rec_back3 _ _ _ h
        obtain ⟨-, n, l', hn, q, r⟩ := byteL_back l false hb
        have hkind : (recLd3 (byteL l false).1 (byteL l false).2.1 (byteL l false).2.2).1.kind = 3 := by show ((byteL l false).1 : Int) = 3; omega
        generalize recLd3 (byteL l false).1 (byteL l false).2.1 (byteL l false).2.2 = X at *
        rw [r] at k3 hl
        simp only at k3 hl
        rw [q, k3, hl]
        simp [bodyL, hkind]
      · simp only [if_neg k1, if_neg k2, if_neg k3] at hm
        rcases rec_kind _ hm with h' | h' | h' <;> simp only at h' <;> omega
end Go.Proofs.Ytcbbnmodjnnbeaa
/- Both Decodes come to the same. -/
set_option linter.unusedSimpArgs false
set_option linter.unusedVariables false
namespace Go.Proofs.Ytcbbnmodjnnbeaa

theorem rd_app1 (P Q : List UInt8) (p n : Nat) (hP : P.length = p) (h : n < 256) : rd (P ++ (be 1 n ++ Q)) p 1 = n := by
  subst hP
  rw [be1 n h]
  simp [rd, toNat_of n h]
theorem rd_app3 (P Q : List UInt8) (p n : Nat) (hP : P.length = p) (h : n < 16777216) : rd (P ++ (be 3 n ++ Q)) p 3 = n := by
  subst hP
  rw [be3 n h]
  have g0 : (P ++ ([UInt8.ofNat (n / 65536), UInt8.ofNat (n / 256 % 256), UInt8.ofNat (n % 256)] ++ Q))[P.length + 0]? = some (UInt8.ofNat (n / 65536)) := by simp
  have g1 : (P ++ ([UInt8.ofNat (n / 65536), UInt8.ofNat (n / 256 % 256), UInt8.ofNat (n % 256)] ++ Q))[P.length + 1]? = some (UInt8.ofNat (n / 256 % 256)) := by
    rw [List.getElem?_append_right (by omega)]; simp
  have g2 : (P ++ ([UInt8.ofNat (n / 65536), UInt8.ofNat (n / 256 % 256), UInt8.ofNat (n % 256)] ++ Q))[P.length + 2]? = some (UInt8.ofNat (n % 256)) := by
    rw [List.getElem?_append_right (by omega)]; simp
  simp only [rd, g0, g1, g2, Option.getD_some]
  rw [toNat_of _ (by omega), toNat_of _ (by omega), toNat_of _ (by omega)]
  omega
theorem cut_app (P d Q : List UInt8) (p : Nat) (hP : P.length = p) : cutL (P ++ (d ++ Q)) p d.length = d := by
  subst hP
  unfold cutL
  rw [if_neg (by simp), List.drop_left, List.take_left]

theorem cmdRd_app (P Q : List UInt8) (c : Cmd) (h : CmdBd c) (hP : P.length = 7) : cmdRd (P ++ (cmdL c ++ Q)) 7 = c := by
  obtain ⟨k0, k4, s0, s8, q0, q1, key, val, old, r0, r1⟩ := h
  obtain ⟨kind, ck, cv, co, rev, ses, seq⟩ := c
  simp only at *
  obtain ⟨nk, rfl⟩ := Int.eq_ofNat_of_zero_le k0
  obtain ⟨ns, rfl⟩ := Int.eq_ofNat_of_zero_le s0
  obtain ⟨nq, rfl⟩ := Int.eq_ofNat_of_zero_le q0
  obtain ⟨nr, rfl⟩ := Int.eq_ofNat_of_zero_le r0
  have lk := len_data ck
  have lv := len_data cv
  have lo := len_data co
  generalize hL : P ++ (cmdL ⟨nk, ck, cv, co, nr, ns, nq⟩ ++ Q) = L
  simp only [cmdL, Int.toNat_natCast, List.append_assoc] at hL
  have e1 : rd L 7 1 = nk := by rw [← hL]; exact rd_app1 P _ 7 nk hP (by omega)
  have e2 : rd L 8 1 = ns := by
    rw [← hL, ← List.append_assoc]; exact rd_app1 (P ++ be 1 nk) _ 8 ns (by simp [hP, be_length]) (by omega)
  have e3 : rd L 9 3 = nq := by
    rw [← hL, ← List.append_assoc, ← List.append_assoc]; exact rd_app3 (P ++ be 1 nk ++ be 1 ns) _ 9 nq (by simp [hP, be_length]) (by omega)
  have e4 : rd L 12 1 = ck.size := by
    rw [← hL, ← List.append_assoc, ← List.append_assoc, ← List.append_assoc]; exact rd_app1 (P ++ be 1 nk ++ be 1 ns ++ be 3 nq) _ 12 ck.size (by simp [hP, be_length]) (by omega)
  have e5 : cutL L 13 ck.size = ck.data.toList := by
    rw [← hL, ← List.append_assoc, ← List.append_assoc, ← List.append_assoc, ← List.append_assoc, ← lk]
    exact cut_app (P ++ be 1 nk ++ be 1 ns ++ be 3 nq ++ be 1 ck.data.toList.length) _ _ 13 (by simp [hP, be_length])
  have e6 : rd L (13 + ck.size) 1 = cv.size := by
    rw [← hL, ← List.append_assoc, ← List.append_assoc, ← List.append_assoc, ← List.append_assoc, ← List.append_assoc]
    exact rd_app1 (P ++ be 1 nk ++ be 1 ns ++ be 3 nq ++ be 1 ck.size ++ ck.data.toList) _ _ cv.size (by simp only [List.length_append, hP, be_length, lk]) (by omega)
  have e7 : cutL L (13 + ck.size + 1) cv.size = cv.data.toList := by
    rw [← hL, ← List.append_assoc, ← List.append_assoc, ← List.append_assoc, ← List.append_assoc, ← List.append_assoc, ← List.append_assoc, ← lv]
    exact cut_app (P ++ be 1 nk ++ be 1 ns ++ be 3 nq ++ be 1 ck.size ++ ck.data.toList ++ be 1 cv.data.toList.length) _ _ _ (by simp only [List.length_append, hP, be_length, lk])
  have e8 : rd L (13 + ck.size + 1 + cv.size) 1 = co.size := by
    rw [← hL, ← List.append_assoc, ← List.append_assoc, ← List.append_assoc, ← List.append_assoc, ← List.append_assoc, ← List.append_assoc, ← List.append_assoc]
    exact rd_app1 (P ++ be 1 nk ++ be 1 ns ++ be 3 nq ++ be 1 ck.size ++ ck.data.toList ++ be 1 cv.size ++ cv.data.toList) _ _ co.size (by simp only [List.length_append, hP, be_length, lk, lv]) (by omega)
  have e9 : cutL L (13 + ck.size + 1 + cv.size + 1) co.size = co.data.toList := by
    rw [← hL, ← List.append_assoc, ← List.append_assoc, ← List.append_assoc, ← List.append_assoc, ← List.append_assoc, ← List.append_assoc, ← List.append_assoc, ← List.append_assoc, ← lo]
    exact cut_app (P ++ be 1 nk ++ be 1 ns ++ be 3 nq ++ be 1 ck.size ++ ck.data.toList ++ be 1 cv.size ++ cv.data.toList ++ be 1 co.data.toList.length) _ _ _ (by simp only [List.length_append, hP, be_length, lk, lv])
  have e10 : rd L (13 + ck.size + 1 + cv.size + 1 + co.size) 3 = nr := by
    rw [← hL, ← List.append_assoc, ← List.append_assoc, ← List.append_assoc, ← List.append_assoc, ← List.append_assoc, ← List.append_assoc, ← List.append_assoc, ← List.append_assoc, ← List.append_assoc]
    exact rd_app3 (P ++ be 1 nk ++ be 1 ns ++ be 3 nq ++ be 1 ck.size ++ ck.data.toList ++ be 1 cv.size ++ cv.data.toList ++ be 1 co.size ++ co.data.toList) _ _ nr (by simp only [List.length_append, hP, be_length, lk, lv, lo]) (by omega)
  simp only [cmdRd, Nat.reduceAdd, e1, e2, e3, e4, e5, e6, e7, e8, e9, e10, B_eta]

theorem refRd_enc (r : Rec) (h : r.may = true) : refRd (encL r) = r := by
  rcases rec_kind r h with hk | hk | hk
  · obtain ⟨a1, a2, a3, a4, a5, a6, a7, a8, a9, a10, a11⟩ := rec_bd1 r h hk
    unfold encL
    generalize be 4 (By.sum (bodyL r)) = S
    obtain ⟨kind, gen, index, term, vote, many, cmd, data⟩ := r
    simp only at *
    subst hk a10 a11
    obtain ⟨ng, rfl⟩ := Int.eq_ofNat_of_zero_le (show 0 ≤ gen by omega)
    obtain ⟨ni, rfl⟩ := Int.eq_ofNat_of_zero_le a3
    obtain ⟨nt, rfl⟩ := Int.eq_ofNat_of_zero_le a5
    obtain ⟨nm, rfl⟩ := Int.eq_ofNat_of_zero_le a7
    have ld := len_data data
    generalize hL : bodyL ⟨1, ng, ni, nt, 0, nm, Cmd.zero, data⟩ ++ S = L
    simp only [bodyL, if_true, Int.toNat_natCast, List.append_assoc] at hL
    have e0 : rd L 0 1 = 1 := by rw [← hL]; exact rd_app1 [] _ 0 1 rfl (by omega)
    have e1 : rd L 1 3 = ng := by rw [← hL]; exact rd_app3 (be 1 1) _ 1 ng (be_length _ _) (by omega)
    have e2 : rd L 4 3 = ni := by
      rw [← hL, ← List.append_assoc]; exact rd_app3 (be 1 1 ++ be 3 ng) _ 4 ni (by simp [be_length]) (by omega)
    have e3 : rd L 7 3 = nt := by
      rw [← hL, ← List.append_assoc, ← List.append_assoc]; exact rd_app3 (be 1 1 ++ be 3 ng ++ be 3 ni) _ 7 nt (by simp [be_length]) (by omega)
    have e4 : rd L 10 3 = nm := by
      rw [← hL, ← List.append_assoc, ← List.append_assoc, ← List.append_assoc]; exact rd_app3 (be 1 1 ++ be 3 ng ++ be 3 ni ++ be 3 nt) _ 10 nm (by simp [be_length]) (by omega)
    have e5 : rd L 13 3 = data.size := by
      rw [← hL, ← List.append_assoc, ← List.append_assoc, ← List.append_assoc, ← List.append_assoc]; exact rd_app3 (be 1 1 ++ be 3 ng ++ be 3 ni ++ be 3 nt ++ be 3 nm) _ 13 data.size (by simp [be_length]) (by omega)
    have e6 : cutL L 16 data.size = data.data.toList := by
      rw [← hL, ← List.append_assoc, ← List.append_assoc, ← List.append_assoc, ← List.append_assoc, ← List.append_assoc, ← ld]
      exact cut_app (be 1 1 ++ be 3 ng ++ be 3 ni ++ be 3 nt ++ be 3 nm ++ be 3 data.data.toList.length) _ _ 16 (by simp [be_length])
    simp only [refRd, e0, if_true, e1, e2, e3, e4, e5, e6, B_eta]
  · obtain ⟨a1, a2, a3, a4⟩ := rec_bd2 r h hk
    unfold encL
    generalize be 4 (By.sum (bodyL r)) = S
    have hz : r = ⟨2, 0, 0, r.term, r.vote, 0, Cmd.zero, ByteArray.empty⟩ := by
      simp [Rec.may, hk, Cmd.same_iff, noB] at h
      obtain ⟨kind, gen, index, term, vote, many, cmd, data⟩ := r
      simp only at *
      simp [h, hk]
    rw [hz]
    generalize r.term = term at *
    generalize r.vote = vote at *
    clear hz hk h
    obtain ⟨nt, rfl⟩ := Int.eq_ofNat_of_zero_le a1
    obtain ⟨nv, hv⟩ := Int.eq_ofNat_of_zero_le (show 0 ≤ vote + 1 by omega)
    have hv' : vote = (nv : Int) - 1 := by omega
    subst hv'
    generalize hL : bodyL ⟨2, 0, 0, nt, (nv : Int) - 1, 0, Cmd.zero, ByteArray.empty⟩ ++ S = L
    simp only [bodyL, Int.toNat_natCast, hv, List.append_assoc] at hL
    rw [if_neg (by omega), if_pos trivial] at hL
    simp only [List.append_assoc] at hL
    have e0 : rd L 0 1 = 2 := by rw [← hL]; exact rd_app1 [] _ 0 2 rfl (by omega)
    have e1 : rd L 1 3 = nt := by rw [← hL]; exact rd_app3 (be 1 2) _ 1 nt (be_length _ _) (by omega)
    have e2 : rd L 4 1 = nv := by
      rw [← hL, ← List.append_assoc]; exact rd_app1 (be 1 2 ++ be 3 nt) _ 4 nv (by simp [be_length]) (by omega)
    unfold refRd
    rw [e0, if_neg (by omega), if_pos rfl, e1, e2]
    rfl
  · obtain ⟨a1, a2, a3, a4, a5⟩ := rec_bd3 r h hk
    have hc := cmd_bd r.cmd a5
    unfold encL
    generalize be 4 (By.sum (bodyL r)) = S
    have hz : r = ⟨3, 0, r.index, r.term, 0, 0, r.cmd, ByteArray.empty⟩ := by
      simp [Rec.may, hk, noB] at h
      obtain ⟨kind, gen, index, term, vote, many, cmd, data⟩ := r
      simp only at *
      simp [h, hk]
    rw [hz]
    generalize r.term = term at *
    generalize r.index = index at *
    generalize r.cmd = cmd at *
    clear hz hk h
    obtain ⟨nt, rfl⟩ := Int.eq_ofNat_of_zero_le a3
    obtain ⟨ni, rfl⟩ := Int.eq_ofNat_of_zero_le (show 0 ≤ index by omega)
    generalize hL : bodyL ⟨3, 0, ni, nt, 0, 0, cmd, ByteArray.empty⟩ ++ S = L
    simp only [bodyL, Int.toNat_natCast, List.append_assoc] at hL
    rw [if_neg (by omega), if_neg (by omega)] at hL
    simp only [List.append_assoc] at hL
    have e0 : rd L 0 1 = 3 := by rw [← hL]; exact rd_app1 [] _ 0 3 rfl (by omega)
    have e1 : rd L 1 3 = ni := by rw [← hL]; exact rd_app3 (be 1 3) _ 1 ni (be_length _ _) (by omega)
    have e2 : rd L 4 3 = nt := by
      rw [← hL, ← List.append_assoc]; exact rd_app3 (be 1 3 ++ be 3 ni) _ 4 nt (by simp [be_length]) (by omega)
    have e3 : cmdRd L 7 = cmd := by
      rw [← hL, ← List.append_assoc, ← List.append_assoc]; exact cmdRd_app (be 1 3 ++ be 3 ni ++ be 3 nt) S cmd hc (by simp [be_length])
    unfold refRd
    rw [e0, if_neg (by omega), if_neg (by omega), if_pos rfl, e1, e2, e3]
    rfl

theorem decR_enc (r : Rec) (h : r.may = true) : decR (encL r) = (r, 0) := by
  unfold decR; rw [refRd_enc r h, if_pos ⟨h, rfl⟩]
theorem decP_enc (r : Rec) (h : r.may = true) : decP (encL r) = (r, 0) := by
  have hl : (encL r).length - 4 = (bodyL r).length := by unfold encL; rw [List.length_append, be_length]; omega
  unfold decP
  rw [hl, if_neg (by unfold encL; rw [List.length_append, be_length]; omega)]
  unfold encL
  rw [List.take_left, List.drop_left, if_neg (by simp), rec_fwd r h, if_pos ⟨rfl, h⟩]
theorem dec_same (L : List UInt8) : decP L = decR L := by
  by_cases hex : ∃ r, Rec.may r = true ∧ encL r = L
  · obtain ⟨r, hm, rfl⟩ := hex
    rw [decP_enc r hm, decR_enc r hm]
  · have h1 : decR L = (Rec.zero, 10) := by
      unfold decR; rw [if_neg (fun h => hex ⟨_, h⟩)]
    rw [h1]
    unfold decP
    by_cases h4 : L.length < 4
    · rw [if_pos h4]
    · rw [if_neg h4]
      by_cases hs : L.drop (L.length - 4) = be 4 (By.sum (L.take (L.length - 4)))
      · rw [if_neg (fun h => h hs)]
        by_cases hr : (recLd (L.take (L.length - 4)) false).2 = ([], false) ∧ (recLd (L.take (L.length - 4)) false).1.may = true
        · exfalso
          refine hex ⟨_, hr.2, ?_⟩
          have hb := rec_back _ hr.1 hr.2
          unfold encL
          rw [hb, ← hs, List.take_append_drop]
        · rw [if_neg hr]
      · rw [if_pos hs]
end Go.Proofs.Ytcbbnmodjnnbeaa
/- The document's Load as a function: it takes what the program's takes. -/
set_option linter.unusedSimpArgs false
set_option linter.unusedVariables false
namespace Go.Proofs.Ytcbbnmodjnnbeaa
open Go.RowKit

/-- A version at a place: it, the length of its key, of its value. -/
def vK (L : List UInt8) (p : Nat) : Nat := rd L p 1
def vM (L : List UInt8) (p : Nat) : Nat := rd L (p + 5 + vK L p) 1
def vN (L : List UInt8) (p : Nat) : Nat := p + 5 + vK L p + 1 + vM L p
def vAt (L : List UInt8) (p : Nat) : KV := (B (cutL L (p + 1) (vK L p)), ⟨rd L (p + 1 + vK L p) 3, B (cutL L (p + 5 + vK L p + 1) (vM L p)), rd L (p + 4 + vK L p) 1 == 1⟩)
def badV (L : List UInt8) (R p : Nat) : Prop := L.length < vN L p ∨ vK L p = 0 ∨ 8 < vK L p ∨ 8 < vM L p ∨ ((vAt L p).2.gone = true ∧ 0 < vM L p) ∨ (vAt L p).2.rev < 1 ∨ R < (vAt L p).2.rev
def insR (l : List KV) (x : KV) : List KV := l.takeWhile (fun y => decide (y.2.rev < x.2.rev)) ++ x :: l.dropWhile (fun y => decide (y.2.rev < x.2.rev))
def addL (l : List KV) (x : KV) : Option (List KV) := if l.any (fun y => y.2.rev == x.2.rev) = true then none else some (insR l x)
open Classical in
noncomputable def rVers (L : List UInt8) (R : Nat) : Nat → Nat → List KV → Option (List KV × Nat)
  | 0, p, l => some (l, p)
  | n + 1, p, l => if badV L R p then none else match addL l (vAt L p) with
    | none => none
    | some l' => rVers L R n (vN L p) l'
def sAt (L : List UInt8) (p : Nat) : Nat × Res := (rd L p 3, ⟨rd L (p + 3) 1 == 1, rd L (p + 4) 3, false⟩)
def badS (R : Nat) (x : Nat × Res) : Prop := 1000000 < x.1 ∨ (R : Int) < x.2.rev ∨ (x.1 = 0 ∧ ¬ (x.2.ok = false ∧ x.2.rev = 0))
open Classical in
noncomputable def rSes (L : List UInt8) (R : Nat) : Nat → Nat → List (Nat × Res) → Option (List (Nat × Res))
  | 0, _, ss => some ss
  | n + 1, p, ss => if badS R (sAt L p) then none else rSes L R n (p + 7) (ss ++ [sAt L p])
theorem rVers_bad {L : List UInt8} {R n p : Nat} {l : List KV} (h : badV L R p) : rVers L R (n + 1) p l = none := by rw [rVers]; exact if_pos h
theorem rVers_none {L : List UInt8} {R n p : Nat} {l : List KV} (h : addL l (vAt L p) = none) : rVers L R (n + 1) p l = none := by
  rw [rVers, h]; split <;> rfl
theorem rVers_some {L : List UInt8} {R n p : Nat} {l l' : List KV} (hb : ¬ badV L R p) (h : addL l (vAt L p) = some l') : rVers L R (n + 1) p l = rVers L R n (vN L p) l' := by
  rw [rVers, h]; exact if_neg hb
theorem rSes_bad {L : List UInt8} {R n p : Nat} {l : List (Nat × Res)} (h : badS R (sAt L p)) : rSes L R (n + 1) p l = none := by rw [rSes]; exact if_pos h
theorem rSes_ok {L : List UInt8} {R n p : Nat} {l : List (Nat × Res)} (h : ¬ badS R (sAt L p)) : rSes L R (n + 1) p l = rSes L R n (p + 7) (l ++ [sAt L p]) := by rw [rSes]; exact if_neg h
open Classical in
noncomputable def refLoad (L : List UInt8) : Option (St × List KV) :=
  if 1000000 < rd L 0 3 ∨ rd L 0 3 < rd L 3 3 then none else match rVers L (rd L 0 3) (rd L 6 3) 9 [] with
  | none => none
  | some (l, p) => match rSes L (rd L 0 3) 8 p [] with
    | none => none
    | some ss => if ∃ ks, KeysIn ⟨rd L 0 3, rd L 3 3, versOf l, ss⟩ ks ∧ saveL ⟨rd L 0 3, rd L 3 3, versOf l, ss⟩ ks = L then some (⟨rd L 0 3, rd L 3 3, versOf l, ss⟩, l) else none
theorem add_mem {l l' : List KV} {x : KV} (h : addL l x = some l') : l'.Perm (x :: l) ∧ (∀ y ∈ l, y.2.rev ≠ x.2.rev) := by
  unfold addL at h
  split at h
  · cases h
  · next hn =>
    injection h with h
    subst h
    refine ⟨?_, fun y hy e => hn (List.any_eq_true.2 ⟨y, hy, by simp [e]⟩)⟩
    unfold insR
    refine (List.perm_middle).trans (List.Perm.cons _ ?_)
    rw [List.takeWhile_append_dropWhile]
theorem add_asc {l l' : List KV} {x : KV} (ha : RAsc l) (h : addL l x = some l') : RAsc l' := by
  have hne := (add_mem h).2
  unfold addL at h
  split at h
  · cases h
  · injection h with h
    subst h
    clear hne
    next hn =>
    have hne : ∀ y ∈ l, y.2.rev ≠ x.2.rev := fun y hy e => hn (List.any_eq_true.2 ⟨y, hy, by simp [e]⟩)
    clear hn
    unfold insR
    induction l with
    | nil => exact List.pairwise_singleton _ _
    | cons y l ih =>
      obtain ⟨h1, h2⟩ := List.pairwise_cons.1 ha
      rw [List.takeWhile_cons, List.dropWhile_cons]
      by_cases hy : y.2.rev < x.2.rev
      · have e : decide (y.2.rev < x.2.rev) = true := decide_eq_true hy
        simp only [e, if_true, List.cons_append]
        refine List.pairwise_cons.2 ⟨fun z hz => ?_, ih h2 fun z hz => hne z (by simp [hz])⟩
        rcases List.mem_append.1 hz with hz | hz
        · exact h1 z ((List.takeWhile_prefix _).subset hz)
        · rcases List.mem_cons.1 hz with rfl | hz
          · exact hy
          · exact h1 z ((List.dropWhile_suffix _).subset hz)
      · have e : decide (y.2.rev < x.2.rev) = false := decide_eq_false hy
        simp only [e, Bool.false_eq_true, if_false, List.nil_append]
        have hyx : x.2.rev < y.2.rev := by have := hne y (by simp); omega
        refine List.pairwise_cons.2 ⟨fun z hz => ?_, ha⟩
        rcases List.mem_cons.1 hz with rfl | hz
        · exact hyx
        · have := h1 z hz; omega
theorem add_some {l : List KV} {x : KV} (h : ∀ y ∈ l, y.2.rev ≠ x.2.rev) : ∃ l', addL l x = some l' := by
  refine ⟨insR l x, ?_⟩
  unfold addL
  rw [if_neg]
  intro hn
  obtain ⟨y, hy, e⟩ := List.any_eq_true.1 hn
  exact h y hy (by simpa using e)
-- what is taken may be
def MayKV (R : Nat) (x : KV) : Prop := mayV R x = true
theorem not_bad {L : List UInt8} {R p : Nat} (h : ¬ badV L R p) : MayKV R (vAt L p) := by
  unfold badV at h
  simp only [not_or, not_and] at h
  obtain ⟨h1, h2, h3, h4, h5, h6, h7⟩ := h
  unfold MayKV
  rw [mayV_iff]
  have hk : (cutL L (p + 1) (vK L p)).length = vK L p := by
    unfold cutL
    rw [if_neg (by unfold vN at h1; omega), List.length_take, List.length_drop]
    unfold vN at h1; omega
  have hm : (cutL L (p + 5 + vK L p + 1) (vM L p)).length = vM L p := by
    unfold cutL
    rw [if_neg (by unfold vN at h1; omega), List.length_take, List.length_drop]
    unfold vN at h1; omega
  refine ⟨fun hg => ?_, ?_, ?_, by omega, by omega⟩
  · show (B _).size = 0
    rw [B_size, hm]; have := h5 hg; omega
  · show 1 ≤ (B _).size ∧ (B _).size ≤ 8
    rw [B_size, hk]; omega
  · show (B _).size ≤ 8
    rw [B_size, hm]; omega
theorem rVers_ok (L : List UInt8) (R : Nat) : ∀ (n p : Nat) (l : List KV) (l' : List KV) (p' : Nat), RAsc l → (∀ x ∈ l, MayKV R x) → rVers L R n p l = some (l', p') → RAsc l' ∧ ∀ x ∈ l', MayKV R x
  | 0, p, l, l', p', ha, hm, h => by
    rw [rVers] at h
    injection h with h; injection h with h1 h2
    subst h1; exact ⟨ha, hm⟩
  | n + 1, p, l, l', p', ha, hm, h => by
    by_cases hb : badV L R p
    · rw [rVers_bad hb] at h; cases h
    · cases hd : addL l (vAt L p) with
      | none => rw [rVers_none hd] at h; cases h
      | some l2 =>
        rw [rVers_some hb hd] at h
        refine rVers_ok L R n _ l2 l' p' (add_asc ha hd) (fun x hx => ?_) h
        have := (add_mem hd).1.mem_iff.1 hx
        rcases List.mem_cons.1 this with rfl | h3
        · exact not_bad hb
        · exact hm x h3
theorem sAt_ok {L : List UInt8} {R p : Nat} (h : ¬ badS R (sAt L p)) : SesOk R (sAt L p) := by
  unfold badS at h
  simp only [not_or, not_and] at h
  obtain ⟨h1, h2, h3⟩ := h
  refine ⟨⟨fun h0 => ?_, by omega, by omega⟩, ?_, rfl⟩
  · have h4 := h3 h0
    have h7 : (sAt L p).2.ok = false ∧ (sAt L p).2.rev = 0 := Classical.byContradiction fun hn => h4 (fun a b => hn ⟨a, b⟩)
    obtain ⟨h5, h6⟩ := h7
    have e : (sAt L p).2 = ⟨(sAt L p).2.ok, (sAt L p).2.rev, false⟩ := rfl
    rw [e, h5, h6]
  · show (0 : Int) ≤ ((rd L (p + 4) 3 : Nat) : Int)
    omega
theorem rSes_okL (L : List UInt8) (R : Nat) : ∀ (n p : Nat) (ss ss' : List (Nat × Res)), (∀ x ∈ ss, SesOk R x) → rSes L R n p ss = some ss' → ss'.length = ss.length + n ∧ ∀ x ∈ ss', SesOk R x
  | 0, p, ss, ss', hm, h => by
    rw [rSes] at h
    injection h with h; subst h; exact ⟨rfl, hm⟩
  | n + 1, p, ss, ss', hm, h => by
    by_cases hb : badS R (sAt L p)
    · rw [rSes_bad hb] at h; cases h
    · rw [rSes_ok hb] at h
      obtain ⟨h1, h2⟩ := rSes_okL L R n _ _ ss' (fun x hx => by
        rcases List.mem_append.1 hx with hx | hx
        · exact hm x hx
        · rw [List.mem_singleton.1 hx]; exact sAt_ok hb) h
      exact ⟨by rw [h1, List.length_append, List.length_singleton]; omega, h2⟩
theorem tells_sav {R F : Nat} {l : List KV} {ss : List (Nat × Res)} (hR : R ≤ 1000000) (hF : F ≤ R) (ha : RAsc l) (hm : ∀ x ∈ l, MayKV R x) (hl : ss.length = 8) (hs : ∀ x ∈ ss, SesOk R x) : Sav ⟨R, F, versOf l, ss⟩ := by
  have hmay : ∀ {k v}, v ∈ versOf l k → _ := fun {k v} hv => (mayV_iff _ _).1 (hm _ (mem_versOf.1 hv))
  have hsome : ∀ {k}, versOf l k ≠ [] → ∃ v, v ∈ versOf l k := fun {k} hk => List.exists_mem_of_ne_nil _ hk
  have hT : Tells ⟨R, F, versOf l, ss⟩ l := ⟨ha, fun k => rfl⟩
  have hlen : l.length ≤ R := hT.len (n := R) fun k v hv => (hmay hv).2.2.2
  refine ⟨⟨⟨hR, hF, fun k => versOf_asc ha k, fun k v hv => (hmay hv).2.2.2, hl⟩, fun k hk => ?_, fun k v hv => (hmay hv).2.2.1, fun ks hks => ?_, fun x hx => (hs x hx).1.2.1, fun x hx => ⟨(hs x hx).2.1, (hs x hx).1.2.2⟩⟩, fun k hk => ?_, fun k v hv hg => (hmay hv).1 hg, fun k k' v v' hkk hv hv' e => ?_, fun x hx => ⟨(hs x hx).2.2, (hs x hx).1.1⟩⟩
  · obtain ⟨v, hv⟩ := hsome hk
    exact (hmay hv).2.1.2
  · have h1 := sum_filter l ks hks
    show (ks.map fun k => (versOf l k).length).sum ≤ R
    omega
  · obtain ⟨v, hv⟩ := hsome hk
    exact (hmay hv).2.1.1
  · have h1 := mem_versOf.1 hv
    have h2 := mem_versOf.1 hv'
    obtain ⟨i, hi⟩ := List.getElem?_of_mem h1
    obtain ⟨j, hj⟩ := List.getElem?_of_mem h2
    have h3 := (rasc_lt ha hi hj).2.1 e
    subst h3
    rw [hi] at hj
    injection hj with hj
    exact hkk (congrArg Prod.fst hj)
/-- What the document's Load takes, the program's takes. -/
theorem ref_back {L : List UInt8} {s : St} {l : List KV} (h : refLoad L = some (s, l)) : loadS L = some s ∧ Tells s l ∧ Sav s := by
  unfold refLoad at h
  split at h
  · cases h
  · next hrf =>
    split at h
    · cases h
    · next l' p' hv =>
      split at h
      · cases h
      · next ss hs =>
        split at h
        · next hk =>
          obtain ⟨ks, hk1, hk2⟩ := hk
          injection h with h; injection h with h1 h2
          subst h1 h2
          obtain ⟨a1, a2⟩ := rVers_ok L _ _ _ _ _ _ List.Pairwise.nil (fun x hx => by cases hx) hv
          obtain ⟨b1, b2⟩ := rSes_okL L _ _ _ _ _ (fun x hx => by cases hx) hs
          have hS := tells_sav (F := rd L 3 3) (by omega) (by omega) a1 a2 (by simpa using b1) b2
          refine ⟨?_, ⟨a1, fun k => rfl⟩, hS⟩
          have := save_load hS hk1 []
          rw [List.append_nil, hk2, if_pos rfl] at this
          exact this
        · cases h
-- forward
theorem vAt_fwd (P Q : List UInt8) (x : KV) (p : Nat) (hP : P.length = p) (h1 : x.1.size ≤ 8) (h2 : x.2.val.size ≤ 8) (h3 : x.2.rev ≤ 1000000) :
    vK (P ++ (pairL x ++ Q)) p = x.1.size ∧ vM (P ++ (pairL x ++ Q)) p = x.2.val.size ∧ vAt (P ++ (pairL x ++ Q)) p = x ∧ vN (P ++ (pairL x ++ Q)) p = p + (pairL x).length := by
  obtain ⟨k, r, v, g⟩ := x
  simp only at h1 h2 h3
  have lk := len_data k
  have lv := len_data v
  have hpl : (pairL (k, ⟨r, v, g⟩)).length = 6 + k.size + v.size := by
    simp only [pairL, verL, flag_be, List.length_append, be_length, lk, lv]; omega
  generalize hL : P ++ (pairL (k, ⟨r, v, g⟩) ++ Q) = L
  simp only [pairL, verL, flag_be, List.append_assoc] at hL
  have e1 : rd L p 1 = k.size := by rw [← hL]; exact rd_app1 P _ p k.size hP (by omega)
  have e2 : cutL L (p + 1) k.size = k.data.toList := by
    rw [← hL, ← List.append_assoc, ← lk]
    exact cut_app (P ++ be 1 k.data.toList.length) _ _ _ (by simp only [List.length_append, hP, be_length])
  have e3 : rd L (p + 1 + k.size) 3 = r := by
    rw [← hL, ← List.append_assoc, ← List.append_assoc]
    exact rd_app3 (P ++ be 1 k.size ++ k.data.toList) _ _ r (by simp only [List.length_append, hP, be_length, lk]) (by omega)
  have e4 : rd L (p + 4 + k.size) 1 = if g then 1 else 0 := by
    rw [← hL, ← List.append_assoc, ← List.append_assoc, ← List.append_assoc]
    exact rd_app1 (P ++ be 1 k.size ++ k.data.toList ++ be 3 r) _ _ _ (by simp only [List.length_append, hP, be_length, lk]; omega) (by cases g <;> decide)
  have e5 : rd L (p + 5 + k.size) 1 = v.size := by
    rw [← hL, ← List.append_assoc, ← List.append_assoc, ← List.append_assoc, ← List.append_assoc]
    exact rd_app1 (P ++ be 1 k.size ++ k.data.toList ++ be 3 r ++ be 1 (if g then 1 else 0)) _ _ v.size (by simp only [List.length_append, hP, be_length, lk]; omega) (by omega)
  have e6 : cutL L (p + 5 + k.size + 1) v.size = v.data.toList := by
    rw [← hL, ← List.append_assoc, ← List.append_assoc, ← List.append_assoc, ← List.append_assoc, ← List.append_assoc, ← lv]
    exact cut_app (P ++ be 1 k.size ++ k.data.toList ++ be 3 r ++ be 1 (if g then 1 else 0) ++ be 1 v.data.toList.length) _ _ _ (by simp only [List.length_append, hP, be_length, lk]; omega)
  have hK : vK L p = k.size := e1
  have hM : vM L p = v.size := by unfold vM; rw [hK]; exact e5
  refine ⟨hK, hM, ?_, ?_⟩
  · unfold vAt
    rw [hK, hM, e2, e3, e4, e6, B_eta, B_eta]
    cases g <;> rfl
  · unfold vN
    rw [hK, hM, hpl]; omega
theorem sAt_fwd (P Q : List UInt8) (x : Nat × Res) (p R : Nat) (hP : P.length = p) (h : SesOk R x) (hR : R ≤ 1000000) : sAt (P ++ (sesL x ++ Q)) p = x := by
  obtain ⟨q, ok, rev, st⟩ := x
  obtain ⟨⟨h1, h2, h3⟩, h4, h5⟩ := h
  simp only at h2 h3 h4 h5
  subst h5
  obtain ⟨n, rfl⟩ := Int.eq_ofNat_of_zero_le h4
  generalize hL : P ++ (sesL (q, ⟨ok, (n : Int), false⟩) ++ Q) = L
  simp only [sesL, flag_be, List.append_assoc, Int.toNat_natCast] at hL
  have e1 : rd L p 3 = q := by rw [← hL]; exact rd_app3 P _ p q hP (by omega)
  have e2 : rd L (p + 3) 1 = if ok then 1 else 0 := by
    rw [← hL, ← List.append_assoc]
    exact rd_app1 (P ++ be 3 q) _ _ _ (by simp only [List.length_append, hP, be_length]) (by cases ok <;> decide)
  have e3 : rd L (p + 4) 3 = n := by
    rw [← hL, ← List.append_assoc, ← List.append_assoc]
    exact rd_app3 (P ++ be 3 q ++ be 1 (if ok then 1 else 0)) _ _ n (by simp only [List.length_append, hP, be_length]) (by omega)
  unfold sAt
  rw [e1, e2, e3]
  cases ok <;> rfl
theorem rVers_fwd (R : Nat) (hR : R ≤ 1000000) (Q : List UInt8) : ∀ (ps : List KV) (P : List UInt8) (l done : List KV), (∀ x ∈ ps, mayV R x = true) → (done ++ ps).Pairwise Rel → l.Perm done → RAsc l →
    ∃ l', rVers (P ++ (ps.flatMap pairL ++ Q)) R ps.length P.length l = some (l', P.length + (ps.flatMap pairL).length) ∧ l'.Perm (done ++ ps) ∧ RAsc l'
  | [], P, l, done, _, _, hp, ha => ⟨l, by rw [List.length_nil, rVers]; rfl, by rw [List.append_nil]; exact hp, ha⟩
  | x :: ps, P, l, done, hm, hr, hp, ha => by
    have hx := (mayV_iff _ _).1 (hm x (by simp))
    have e : P ++ ((x :: ps).flatMap pairL ++ Q) = P ++ (pairL x ++ (ps.flatMap pairL ++ Q)) := by rw [List.flatMap_cons, List.append_assoc]
    obtain ⟨f1, f2, f3, f4⟩ := vAt_fwd P (ps.flatMap pairL ++ Q) x P.length rfl hx.2.1.2 hx.2.2.1 (by omega)
    rw [e]
    have hb : ¬ badV (P ++ (pairL x ++ (ps.flatMap pairL ++ Q))) R P.length := by
      unfold badV
      rw [f1, f2, f3, f4]
      simp only [not_or, not_and]
      refine ⟨by simp only [List.length_append]; omega, by omega, by omega, by omega, fun hg => by have := hx.1 hg; omega, by omega, by omega⟩
    have hne : ∀ y ∈ l, y.2.rev ≠ x.2.rev := fun y hy => by
      have hy2 := hp.mem_iff.1 hy
      exact ((List.pairwise_append.1 hr).2.2 y hy2 x (by simp)).2.1
    obtain ⟨l2, hl2⟩ := add_some hne
    rw [List.length_cons, rVers_some hb (by rw [f3]; exact hl2), f4]
    have hr2 : (done ++ [x] ++ ps).Pairwise Rel := by rw [List.append_assoc]; exact hr
    have hp2 : l2.Perm (done ++ [x]) := (add_mem hl2).1.trans ((List.Perm.cons x hp).trans (List.perm_append_singleton x done).symm)
    obtain ⟨l', h1, h2, h3⟩ := rVers_fwd R hR Q ps (P ++ pairL x) l2 (done ++ [x]) (fun y hy => hm y (by simp [hy])) hr2 hp2 (add_asc ha hl2)
    refine ⟨l', ?_, by rw [List.append_assoc] at h2; exact h2, h3⟩
    rw [List.append_assoc, List.length_append] at h1
    rw [h1, List.flatMap_cons, List.length_append, Nat.add_assoc]
theorem rSes_fwd (R : Nat) (hR : R ≤ 1000000) : ∀ (xs : List (Nat × Res)) (P Q : List UInt8) (ss : List (Nat × Res)), (∀ x ∈ xs, SesOk R x) → rSes (P ++ (xs.flatMap sesL ++ Q)) R xs.length P.length ss = some (ss ++ xs)
  | [], P, Q, ss, _ => by rw [List.length_nil, rSes, List.append_nil]
  | x :: xs, P, Q, ss, h => by
    have hx := h x (by simp)
    have e : P ++ ((x :: xs).flatMap sesL ++ Q) = P ++ (sesL x ++ (xs.flatMap sesL ++ Q)) := by rw [List.flatMap_cons, List.append_assoc]
    have f := sAt_fwd P (xs.flatMap sesL ++ Q) x P.length R rfl hx hR
    have hb : ¬ badS R (sAt (P ++ (sesL x ++ (xs.flatMap sesL ++ Q))) P.length) := by
      rw [f]
      unfold badS
      simp only [not_or, not_and]
      refine ⟨by have := hx.1.2.1; omega, by have := hx.1.2.2; omega, fun h0 => ?_⟩
      rw [hx.1.1 h0]; simp
    rw [e, List.length_cons, rSes_ok hb, f]
    have h1 := rSes_fwd R hR xs (P ++ sesL x) Q (ss ++ [x]) fun y hy => h y (by simp [hy])
    have hl : (sesL x).length = 7 := by simp only [sesL, flag_be, List.length_append, be_length]
    rw [List.append_assoc, List.length_append, hl] at h1
    rw [h1, List.append_assoc]; rfl
/-- What the program's Load takes, the document's takes. -/
theorem ref_fwd {L : List UInt8} {s : St} (h : loadS L = some s) : ∃ l, refLoad L = some (s, l) := by
  obtain ⟨ps, hw, hl⟩ := load_back L s h
  have hr := hw.rev
  have hf := hw.floor
  have hlen := wf_len hw
  have e : L = be 3 s.rev ++ (be 3 s.floor ++ (be 3 ps.length ++ (ps.flatMap pairL ++ (s.ss.flatMap sesL ++ [])))) := by rw [hl]; simp only [wfL, List.append_assoc, List.append_nil]
  have e1 : rd L 0 3 = s.rev := by rw [e]; exact rd_app3 [] _ 0 _ rfl (by omega)
  have e2 : rd L 3 3 = s.floor := by rw [e]; exact rd_app3 (be 3 s.rev) _ 3 _ (by rw [be_length]) (by omega)
  have e3 : rd L 6 3 = ps.length := by
    rw [e, ← List.append_assoc]; exact rd_app3 (be 3 s.rev ++ be 3 s.floor) _ 6 _ (by simp only [List.length_append, be_length]) (by omega)
  obtain ⟨l, h1, h2, h3⟩ := rVers_fwd s.rev hr (s.ss.flatMap sesL ++ []) ps (be 3 s.rev ++ be 3 s.floor ++ be 3 ps.length) [] [] hw.may (by rw [List.nil_append]; exact hw.rel) (List.Perm.refl _) List.Pairwise.nil
  have e4 : be 3 s.rev ++ be 3 s.floor ++ be 3 ps.length ++ (ps.flatMap pairL ++ (s.ss.flatMap sesL ++ [])) = L := by rw [e]; simp only [List.append_assoc]
  have e5 : (be 3 s.rev ++ be 3 s.floor ++ be 3 ps.length).length = 9 := by simp only [List.length_append, be_length]
  rw [e4, e5] at h1
  have h4 := rSes_fwd s.rev hr s.ss (be 3 s.rev ++ be 3 s.floor ++ be 3 ps.length ++ ps.flatMap pairL) [] [] hw.ses
  have e6 : be 3 s.rev ++ be 3 s.floor ++ be 3 ps.length ++ ps.flatMap pairL ++ (s.ss.flatMap sesL ++ []) = L := by rw [e]; simp only [List.append_assoc]
  rw [e6, hw.ss, List.length_append, e5, List.nil_append] at h4
  have hv : versOf l = s.vers := by
    funext k
    rw [hw.vers]
    have hp : (versOf l k).Perm (versOf ps k) := by
      unfold versOf
      exact (List.Perm.filter _ (by simpa using h2)).map _
    refine List.Perm.eq_of_pairwise (le := fun a b : Ver => a.rev < b.rev) (fun a b _ _ h5 h6 => by omega) (versOf_asc h3 k) ?_ hp
    unfold versOf
    rw [List.pairwise_map]
    have h7 : (ps.filter fun x => decide (x.1 = k)).Pairwise Rel := hw.rel.filter _
    refine (List.Pairwise.and_mem.1 h7).imp ?_
    rintro a b ⟨ha, hb, hab⟩
    have ea := (List.mem_filter.1 ha).2
    have eb := (List.mem_filter.1 hb).2
    simp only [decide_eq_true_eq] at ea eb
    exact hab.2.2 (ea.trans eb.symm)
  have hs : (⟨s.rev, s.floor, versOf l, s.ss⟩ : St) = s := by rw [hv]
  refine ⟨l, ?_⟩
  unfold refLoad
  rw [e1, e2, e3, if_neg (by omega), h1]
  simp only
  rw [h4]
  simp only
  rw [hs]
  have hT : Tells s l := ⟨h3, fun k => by rw [hv]⟩
  obtain ⟨ks, hk⟩ := hT.keys
  rw [if_pos ⟨ks, hk, by rw [hl, wf_pairs hw hk, wfL_save]⟩]
theorem ref_none {L : List UInt8} (h : refLoad L = none) : loadS L = none := by
  cases hl : loadS L with
  | none => rfl
  | some s => obtain ⟨l, hl2⟩ := ref_fwd hl; rw [h] at hl2; cases hl2
end Go.Proofs.Ytcbbnmodjnnbeaa
