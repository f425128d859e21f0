/- Both Decodes come to the same. -/
import Derived.Test.YthoaomaknegblaaPure
set_option linter.unusedSimpArgs false
set_option linter.unusedVariables false
namespace Go.Proofs.Ythoaomaknegblaa

theorem rd_app1 (P Q : List UInt8) (p n : Nat) (hP : P.length = p) (h : n < 256) : rd (P ++ (be 1 n ++ Q)) p 1 = n := by
  subst hP
  rw [be1 n h]
  simp [rd, toNat_of n h]
theorem rd_app3 (P Q : List UInt8) (p n : Nat) (hP : P.length = p) (h : n < 16777216) : rd (P ++ (be 3 n ++ Q)) p 3 = n := by
  subst hP
  rw [be3 n h]
  have g0 : (P ++ ([UInt8.ofNat (n / 65536), UInt8.ofNat (n / 256 % 256), UInt8.ofNat (n % 256)] ++ Q))[P.length + 0]? = some (UInt8.ofNat (n / 65536)) := by simp
  have g1 : (P ++ ([UInt8.ofNat (n / 65536), UInt8.ofNat (n / 256 % 256), UInt8.ofNat (n % 256)] ++ Q))[P.length + 1]? = some (UInt8.ofNat (n / 256 % 256)) := by
    rw [List.getElem?_append_right (by omega)]; simp
  have g2 : (P ++ ([UInt8.ofNat (n / 65536), UInt8.ofNat (n / 256 % 256), UInt8.ofNat (n % 256)] ++ Q))[P.length + 2]? = some (UInt8.ofNat (n % 256)) := by
    rw [List.getElem?_append_right (by omega)]; simp
  simp only [rd, g0, g1, g2, Option.getD_some]
  rw [toNat_of _ (by omega), toNat_of _ (by omega), toNat_of _ (by omega)]
  omega
theorem cut_app (P d Q : List UInt8) (p : Nat) (hP : P.length = p) : cutL (P ++ (d ++ Q)) p d.length = d := by
  subst hP
  unfold cutL
  rw [if_neg (by simp), List.drop_left, List.take_left]

theorem cmdRd_app (P Q : List UInt8) (c : Cmd) (h : CmdBd c) (hP : P.length = 7) : cmdRd (P ++ (cmdL c ++ Q)) 7 = c := by
  obtain ⟨k0, k4, s0, s8, q0, q1, key, val, old, r0, r1⟩ := h
  obtain ⟨kind, ck, cv, co, rev, ses, seq⟩ := c
  simp only at *
  obtain ⟨nk, rfl⟩ := Int.eq_ofNat_of_zero_le k0
  obtain ⟨ns, rfl⟩ := Int.eq_ofNat_of_zero_le s0
  obtain ⟨nq, rfl⟩ := Int.eq_ofNat_of_zero_le q0
  obtain ⟨nr, rfl⟩ := Int.eq_ofNat_of_zero_le r0
  have lk := len_data ck
  have lv := len_data cv
  have lo := len_data co
  generalize hL : P ++ (cmdL ⟨nk, ck, cv, co, nr, ns, nq⟩ ++ Q) = L
  simp only [cmdL, Int.toNat_natCast, List.append_assoc] at hL
  have e1 : rd L 7 1 = nk := by rw [← hL]; exact rd_app1 P _ 7 nk hP (by omega)
  have e2 : rd L 8 1 = ns := by
    rw [← hL, ← List.append_assoc]; exact rd_app1 (P ++ be 1 nk) _ 8 ns (by simp [hP, be_length]) (by omega)
  have e3 : rd L 9 3 = nq := by
    rw [← hL, ← List.append_assoc, ← List.append_assoc]; exact rd_app3 (P ++ be 1 nk ++ be 1 ns) _ 9 nq (by simp [hP, be_length]) (by omega)
  have e4 : rd L 12 1 = ck.size := by
    rw [← hL, ← List.append_assoc, ← List.append_assoc, ← List.append_assoc]; exact rd_app1 (P ++ be 1 nk ++ be 1 ns ++ be 3 nq) _ 12 ck.size (by simp [hP, be_length]) (by omega)
  have e5 : cutL L 13 ck.size = ck.data.toList := by
    rw [← hL, ← List.append_assoc, ← List.append_assoc, ← List.append_assoc, ← List.append_assoc, ← lk]
    exact cut_app (P ++ be 1 nk ++ be 1 ns ++ be 3 nq ++ be 1 ck.data.toList.length) _ _ 13 (by simp [hP, be_length])
  have e6 : rd L (13 + ck.size) 1 = cv.size := by
    rw [← hL, ← List.append_assoc, ← List.append_assoc, ← List.append_assoc, ← List.append_assoc, ← List.append_assoc]
    exact rd_app1 (P ++ be 1 nk ++ be 1 ns ++ be 3 nq ++ be 1 ck.size ++ ck.data.toList) _ _ cv.size (by simp only [List.length_append, hP, be_length, lk]) (by omega)
  have e7 : cutL L (13 + ck.size + 1) cv.size = cv.data.toList := by
    rw [← hL, ← List.append_assoc, ← List.append_assoc, ← List.append_assoc, ← List.append_assoc, ← List.append_assoc, ← List.append_assoc, ← lv]
    exact cut_app (P ++ be 1 nk ++ be 1 ns ++ be 3 nq ++ be 1 ck.size ++ ck.data.toList ++ be 1 cv.data.toList.length) _ _ _ (by simp only [List.length_append, hP, be_length, lk])
  have e8 : rd L (13 + ck.size + 1 + cv.size) 1 = co.size := by
    rw [← hL, ← List.append_assoc, ← List.append_assoc, ← List.append_assoc, ← List.append_assoc, ← List.append_assoc, ← List.append_assoc, ← List.append_assoc]
    exact rd_app1 (P ++ be 1 nk ++ be 1 ns ++ be 3 nq ++ be 1 ck.size ++ ck.data.toList ++ be 1 cv.size ++ cv.data.toList) _ _ co.size (by simp only [List.length_append, hP, be_length, lk, lv]) (by omega)
  have e9 : cutL L (13 + ck.size + 1 + cv.size + 1) co.size = co.data.toList := by
    rw [← hL, ← List.append_assoc, ← List.append_assoc, ← List.append_assoc, ← List.append_assoc, ← List.append_assoc, ← List.append_assoc, ← List.append_assoc, ← List.append_assoc, ← lo]
    exact cut_app (P ++ be 1 nk ++ be 1 ns ++ be 3 nq ++ be 1 ck.size ++ ck.data.toList ++ be 1 cv.size ++ cv.data.toList ++ be 1 co.data.toList.length) _ _ _ (by simp only [List.length_append, hP, be_length, lk, lv])
  have e10 : rd L (13 + ck.size + 1 + cv.size + 1 + co.size) 3 = nr := by
    rw [← hL, ← List.append_assoc, ← List.append_assoc, ← List.append_assoc, ← List.append_assoc, ← List.append_assoc, ← List.append_assoc, ← List.append_assoc, ← List.append_assoc, ← List.append_assoc]
    exact rd_app3 (P ++ be 1 nk ++ be 1 ns ++ be 3 nq ++ be 1 ck.size ++ ck.data.toList ++ be 1 cv.size ++ cv.data.toList ++ be 1 co.size ++ co.data.toList) _ _ nr (by simp only [List.length_append, hP, be_length, lk, lv, lo]) (by omega)
  simp only [cmdRd, Nat.reduceAdd, e1, e2, e3, e4, e5, e6, e7, e8, e9, e10, B_eta]

theorem refRd_enc (r : Rec) (h : r.may = true) : refRd (encL r) = r := by
  rcases rec_kind r h with hk | hk | hk
  · obtain ⟨a1, a2, a3, a4, a5, a6, a7, a8, a9, a10, a11⟩ := rec_bd1 r h hk
    unfold encL
    generalize be 4 (By.sum (bodyL r)) = S
    obtain ⟨kind, gen, index, term, vote, many, cmd, data⟩ := r
    simp only at *
    subst hk a10 a11
    obtain ⟨ng, rfl⟩ := Int.eq_ofNat_of_zero_le (show 0 ≤ gen by omega)
    obtain ⟨ni, rfl⟩ := Int.eq_ofNat_of_zero_le a3
    obtain ⟨nt, rfl⟩ := Int.eq_ofNat_of_zero_le a5
    obtain ⟨nm, rfl⟩ := Int.eq_ofNat_of_zero_le a7
    have ld := len_data data
    generalize hL : bodyL ⟨1, ng, ni, nt, 0, nm, Cmd.zero, data⟩ ++ S = L
    simp only [bodyL, if_true, Int.toNat_natCast, List.append_assoc] at hL
    have e0 : rd L 0 1 = 1 := by rw [← hL]; exact rd_app1 [] _ 0 1 rfl (by omega)
    have e1 : rd L 1 3 = ng := by rw [← hL]; exact rd_app3 (be 1 1) _ 1 ng (be_length _ _) (by omega)
    have e2 : rd L 4 3 = ni := by
      rw [← hL, ← List.append_assoc]; exact rd_app3 (be 1 1 ++ be 3 ng) _ 4 ni (by simp [be_length]) (by omega)
    have e3 : rd L 7 3 = nt := by
      rw [← hL, ← List.append_assoc, ← List.append_assoc]; exact rd_app3 (be 1 1 ++ be 3 ng ++ be 3 ni) _ 7 nt (by simp [be_length]) (by omega)
    have e4 : rd L 10 3 = nm := by
      rw [← hL, ← List.append_assoc, ← List.append_assoc, ← List.append_assoc]; exact rd_app3 (be 1 1 ++ be 3 ng ++ be 3 ni ++ be 3 nt) _ 10 nm (by simp [be_length]) (by omega)
    have e5 : rd L 13 3 = data.size := by
      rw [← hL, ← List.append_assoc, ← List.append_assoc, ← List.append_assoc, ← List.append_assoc]; exact rd_app3 (be 1 1 ++ be 3 ng ++ be 3 ni ++ be 3 nt ++ be 3 nm) _ 13 data.size (by simp [be_length]) (by omega)
    have e6 : cutL L 16 data.size = data.data.toList := by
      rw [← hL, ← List.append_assoc, ← List.append_assoc, ← List.append_assoc, ← List.append_assoc, ← List.append_assoc, ← ld]
      exact cut_app (be 1 1 ++ be 3 ng ++ be 3 ni ++ be 3 nt ++ be 3 nm ++ be 3 data.data.toList.length) _ _ 16 (by simp [be_length])
    simp only [refRd, e0, if_true, e1, e2, e3, e4, e5, e6, B_eta]
  · obtain ⟨a1, a2, a3, a4⟩ := rec_bd2 r h hk
    unfold encL
    generalize be 4 (By.sum (bodyL r)) = S
    have hz : r = ⟨2, 0, 0, r.term, r.vote, 0, Cmd.zero, ByteArray.empty⟩ := by
      simp [Rec.may, hk, Cmd.same_iff, noB] at h
      obtain ⟨kind, gen, index, term, vote, many, cmd, data⟩ := r
      simp only at *
      simp [h, hk]
    rw [hz]
    generalize r.term = term at *
    generalize r.vote = vote at *
    clear hz hk h
    obtain ⟨nt, rfl⟩ := Int.eq_ofNat_of_zero_le a1
    obtain ⟨nv, hv⟩ := Int.eq_ofNat_of_zero_le (show 0 ≤ vote + 1 by omega)
    have hv' : vote = (nv : Int) - 1 := by omega
    subst hv'
    generalize hL : bodyL ⟨2, 0, 0, nt, (nv : Int) - 1, 0, Cmd.zero, ByteArray.empty⟩ ++ S = L
    simp only [bodyL, Int.toNat_natCast, hv, List.append_assoc] at hL
    rw [if_neg (by omega), if_pos trivial] at hL
    simp only [List.append_assoc] at hL
    have e0 : rd L 0 1 = 2 := by rw [← hL]; exact rd_app1 [] _ 0 2 rfl (by omega)
    have e1 : rd L 1 3 = nt := by rw [← hL]; exact rd_app3 (be 1 2) _ 1 nt (be_length _ _) (by omega)
    have e2 : rd L 4 1 = nv := by
      rw [← hL, ← List.append_assoc]; exact rd_app1 (be 1 2 ++ be 3 nt) _ 4 nv (by simp [be_length]) (by omega)
    unfold refRd
    rw [e0, if_neg (by omega), if_pos rfl, e1, e2]
    rfl
  · obtain ⟨a1, a2, a3, a4, a5⟩ := rec_bd3 r h hk
    have hc := cmd_bd r.cmd a5
    unfold encL
    generalize be 4 (By.sum (bodyL r)) = S
    have hz : r = ⟨3, 0, r.index, r.term, 0, 0, r.cmd, ByteArray.empty⟩ := by
      simp [Rec.may, hk, noB] at h
      obtain ⟨kind, gen, index, term, vote, many, cmd, data⟩ := r
      simp only at *
      simp [h, hk]
    rw [hz]
    generalize r.term = term at *
    generalize r.index = index at *
    generalize r.cmd = cmd at *
    clear hz hk h
    obtain ⟨nt, rfl⟩ := Int.eq_ofNat_of_zero_le a3
    obtain ⟨ni, rfl⟩ := Int.eq_ofNat_of_zero_le (show 0 ≤ index by omega)
    generalize hL : bodyL ⟨3, 0, ni, nt, 0, 0, cmd, ByteArray.empty⟩ ++ S = L
    simp only [bodyL, Int.toNat_natCast, List.append_assoc] at hL
    rw [if_neg (by omega), if_neg (by omega)] at hL
    simp only [List.append_assoc] at hL
    have e0 : rd L 0 1 = 3 := by rw [← hL]; exact rd_app1 [] _ 0 3 rfl (by omega)
    have e1 : rd L 1 3 = ni := by rw [← hL]; exact rd_app3 (be 1 3) _ 1 ni (be_length _ _) (by omega)
    have e2 : rd L 4 3 = nt := by
      rw [← hL, ← List.append_assoc]; exact rd_app3 (be 1 3 ++ be 3 ni) _ 4 nt (by simp [be_length]) (by omega)
    have e3 : cmdRd L 7 = cmd := by
      rw [← hL, ← List.append_assoc, ← List.append_assoc]; exact cmdRd_app (be 1 3 ++ be 3 ni ++ be 3 nt) S cmd hc (by simp [be_length])
    unfold refRd
    rw [e0, if_neg (by omega), if_neg (by omega), if_pos rfl, e1, e2, e3]
    rfl

theorem decR_enc (r : Rec) (h : r.may = true) : decR (encL r) = (r, 0) := by
  unfold decR; rw [refRd_enc r h, if_pos ⟨h, rfl⟩]
theorem decP_enc (r : Rec) (h : r.may = true) : decP (encL r) = (r, 0) := by
  have hl : (encL r).length - 4 = (bodyL r).length := by unfold encL; rw [List.length_append, be_length]; omega
  unfold decP
  rw [hl, if_neg (by unfold encL; rw [List.length_append, be_length]; omega)]
  unfold encL
  rw [List.take_left, List.drop_left, if_neg (by simp), rec_fwd r h, if_pos ⟨rfl, h⟩]
theorem dec_same (L : List UInt8) : decP L = decR L := by
  by_cases hex : ∃ r, Rec.may r = true ∧ encL r = L
  · obtain ⟨r, hm, rfl⟩ := hex
    rw [decP_enc r hm, decR_enc r hm]
  · have h1 : decR L = (Rec.zero, 10) := by
      unfold decR; rw [if_neg (fun h => hex ⟨_, h⟩)]
    rw [h1]
    unfold decP
    by_cases h4 : L.length < 4
    · rw [if_pos h4]
    · rw [if_neg h4]
      by_cases hs : L.drop (L.length - 4) = be 4 (By.sum (L.take (L.length - 4)))
      · rw [if_neg (fun h => h hs)]
        by_cases hr : (recLd (L.take (L.length - 4)) false).2 = ([], false) ∧ (recLd (L.take (L.length - 4)) false).1.may = true
        · exfalso
          refine hex ⟨_, hr.2, ?_⟩
          have hb := rec_back _ hr.1 hr.2
          unfold encL
          rw [hb, ← hs, List.take_append_drop]
        · rw [if_neg hr]
      · rw [if_pos hs]
end Go.Proofs.Ythoaomaknegblaa
