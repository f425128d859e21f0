/- The document's own Encode, whole. -/
import Derived.Test.YtcbbnmodjnnbeaaEncRef
set_option linter.unusedSimpArgs false
set_option linter.unusedVariables false
namespace Go.Proofs.Ytcbbnmodjnnbeaa
open Go.RowKit

theorem ret2_str {a b : ByteArray} {m n : Int} (h : a = b) (hn : m = n) : Ending.returned (.tuple #[.string a, .int .i64 m]) = .returned (.tuple #[.string b, .int .i64 n]) := by rw [h, hn]
theorem cmdL_length (c : Cmd) : (cmdL c).length = 11 + c.key.size + c.val.size + c.old.size := by
  simp only [cmdL, List.length_append, be_length, len_data]; omega
theorem encL_length1 (r : Rec) (hk : r.kind = 1) : (encL r).length = 20 + r.data.size := by
  simp only [encL, bodyL, hk, if_pos, List.length_append, be_length, len_data]; omega

set_option maxHeartbeats 1000000 in
theorem refEncode1 (r : Rec) (w : World) (hm : r.may = true) (hk : r.kind = 1) :
    Calls Try.prog 15 #[(.agg #[.int .i64 r.kind, .int .i64 r.gen, .int .i64 r.index, .int .i64 r.term, .int .i64 r.vote, .int .i64 r.many, .int .i64 r.cmd.kind, .string r.cmd.key, .string r.cmd.val, .string r.cmd.old, .int .i64 r.cmd.rev, .int .i64 r.cmd.ses, .int .i64 r.cmd.seq, .string r.data])] w fun e w' => e = .returned (.tuple #[.string (B (encL r)), .int .i64 0]) ∧ Below w.heap.size w w' := by
  have HE : Hid (bodyL r = be 1 r.kind.toNat ++ (be 3 r.gen.toNat ++ be 3 r.index.toNat ++ be 3 r.term.toNat ++ be 3 r.many.toNat ++ be 3 r.data.size ++ r.data.data.toList)) := by show _ = _; simp [bodyL, hk]
  obtain ⟨a1, a2, a3, a4, a5, a6, a7, a8, a9, -, -⟩ := rec_bd1 r hm hk
  have hk1 : (r.kind == 1) = true := by rw [hk]; rfl
  have hk2 : (r.kind == 2) = false := by rw [hk]; rfl
  have hk3 : (r.kind == 3) = false := by rw [hk]; rfl
  have hk0 : 0 ≤ r.kind := by omega
  have hk9 : r.kind ≤ 9 := by omega
  clear hk
  go_enter Try.func15, Try.ntmps15
  go_wp2_with (first | (go_at_call 50; refine (refMayRec r _).mono ?_; rintro e w1 ⟨rfl, hb1⟩; obtain ⟨x1, rfl⟩ := Below.ext hb1; clear hb1) | (go_at_call 51; refine (num1 _ _ (by omega) (by omega)).mono ?_; rintro e w2 ⟨rfl, hb2⟩; obtain ⟨x2, rfl⟩ := Below.ext hb2; clear hb2))
  refine wp_region_grows (by kernel_rfl) (by kernel_rfl) ?_
  repeat (first | quiet_step (fail) | (refine wpQuiet_step (fun K hK => ?_); go_simp; simp only [↓IntWalk.iteOmega]; go_simp; refine hK _ ?_; clear hK K))
  quiet_step (exact Calls.grows (num3 _ _ (by omega) (by omega)))
  repeat (first | quiet_step (fail) | (refine wpQuiet_step (fun K hK => ?_); go_simp; simp only [↓IntWalk.iteOmega]; go_simp; refine hK _ ?_; clear hK K))
  quiet_step (exact Calls.grows (num3 _ _ (by omega) (by omega)))
  repeat (first | quiet_step (fail) | (refine wpQuiet_step (fun K hK => ?_); go_simp; simp only [↓IntWalk.iteOmega]; go_simp; refine hK _ ?_; clear hK K))
  quiet_step (exact Calls.grows (num3 _ _ (by omega) (by omega)))
  repeat (first | quiet_step (fail) | (refine wpQuiet_step (fun K hK => ?_); go_simp; simp only [↓IntWalk.iteOmega]; go_simp; refine hK _ ?_; clear hK K))
  quiet_step (exact Calls.grows (num3 _ _ (by omega) (by omega)))
  repeat (first | quiet_step (fail) | (refine wpQuiet_step (fun K hK => ?_); go_simp; simp only [↓IntWalk.iteOmega]; go_simp; refine hK _ ?_; clear hK K))
  quiet_step (exact Calls.grows (num3 _ _ (by omega) (by omega)))
  repeat (first | quiet_step (fail) | (refine wpQuiet_step (fun K hK => ?_); go_simp; simp only [↓IntWalk.iteOmega]; go_simp; refine hK _ ?_; clear hK K))
  refine wpQuiet_nil ?_
  rintro _ ⟨x, rfl⟩
  go_wp2_with (first | (go_at_call 13; refine (refSum _ _ (by simp only [B_size, List.length_append, be_length, len_data, cmdL_length]; unfold maxLen; omega)).mono ?_; rintro e w3 ⟨rfl, rfl⟩) | (go_at_call 51; refine (num4 _ _ (Nat.le_of_lt (Nat.lt_of_lt_of_le (By.sum_lt _) (by omega)))).mono ?_; rintro e w4 ⟨rfl, hb4⟩; obtain ⟨x4, rfl⟩ := Below.ext hb4; clear hb4))
  go_ret2
  exact ⟨ret2_str (by simp only [encL, HE.out, List.append_assoc]) rfl, (by repeat (first | exact Below.refl _ _ | assumption | refine Gr.ext ?_ _ | refine Gr.alloc ?_ _ | refine Gr.drew ?_ | (refine Gr.set ?_ (by first | (simp; done) | (simp; omega)) _)))⟩

set_option maxHeartbeats 1000000 in
theorem refEncode2 (r : Rec) (w : World) (hm : r.may = true) (hk : r.kind = 2) :
    Calls Try.prog 15 #[(.agg #[.int .i64 r.kind, .int .i64 r.gen, .int .i64 r.index, .int .i64 r.term, .int .i64 r.vote, .int .i64 r.many, .int .i64 r.cmd.kind, .string r.cmd.key, .string r.cmd.val, .string r.cmd.old, .int .i64 r.cmd.rev, .int .i64 r.cmd.ses, .int .i64 r.cmd.seq, .string r.data])] w fun e w' => e = .returned (.tuple #[.string (B (encL r)), .int .i64 0]) ∧ Below w.heap.size w w' := by
  have HE : Hid (bodyL r = be 1 r.kind.toNat ++ (be 3 r.term.toNat ++ be 1 (r.vote + 1).toNat)) := by show _ = _; simp [bodyL, hk]
  obtain ⟨a1, a2, a3, a4⟩ := rec_bd2 r hm hk
  have hw := wrap_id (r.vote + 1) (by omega) (by omega)
  have hk1 : (r.kind == 1) = false := by rw [hk]; rfl
  have hk2 : (r.kind == 2) = true := by rw [hk]; rfl
  have hk3 : (r.kind == 3) = false := by rw [hk]; rfl
  have hk0 : 0 ≤ r.kind := by omega
  have hk9 : r.kind ≤ 9 := by omega
  clear hk
  go_enter Try.func15, Try.ntmps15
  go_wp2_with (first | (go_at_call 50; refine (refMayRec r _).mono ?_; rintro e w1 ⟨rfl, hb1⟩; obtain ⟨x1, rfl⟩ := Below.ext hb1; clear hb1) | (go_at_call 51; refine (num1 _ _ (by omega) (by omega)).mono ?_; rintro e w2 ⟨rfl, hb2⟩; obtain ⟨x2, rfl⟩ := Below.ext hb2; clear hb2))
  refine wp_region_grows (by kernel_rfl) (by kernel_rfl) ?_
  repeat (first | quiet_step (fail) | (refine wpQuiet_step (fun K hK => ?_); go_simp; simp only [↓IntWalk.iteOmega]; go_simp; refine hK _ ?_; clear hK K))
  quiet_step (exact Calls.grows (num3 _ _ (by omega) (by omega)))
  repeat (first | quiet_step (fail) | (refine wpQuiet_step (fun K hK => ?_); go_simp; simp only [↓IntWalk.iteOmega]; go_simp; refine hK _ ?_; clear hK K))
  quiet_step (exact Calls.grows (num1 _ _ (by omega) (by omega)))
  repeat (first | quiet_step (fail) | (refine wpQuiet_step (fun K hK => ?_); go_simp; simp only [↓IntWalk.iteOmega]; go_simp; refine hK _ ?_; clear hK K))
  refine wpQuiet_nil ?_
  rintro _ ⟨x, rfl⟩
  go_wp2_with (first | (go_at_call 13; refine (refSum _ _ (by simp only [B_size, List.length_append, be_length, len_data, cmdL_length]; unfold maxLen; omega)).mono ?_; rintro e w3 ⟨rfl, rfl⟩) | (go_at_call 51; refine (num4 _ _ (Nat.le_of_lt (Nat.lt_of_lt_of_le (By.sum_lt _) (by omega)))).mono ?_; rintro e w4 ⟨rfl, hb4⟩; obtain ⟨x4, rfl⟩ := Below.ext hb4; clear hb4))
  go_ret2
  exact ⟨ret2_str (by simp only [encL, HE.out, List.append_assoc]) rfl, (by repeat (first | exact Below.refl _ _ | assumption | refine Gr.ext ?_ _ | refine Gr.alloc ?_ _ | refine Gr.drew ?_ | (refine Gr.set ?_ (by first | (simp; done) | (simp; omega)) _)))⟩

set_option maxHeartbeats 1000000 in
theorem refEncode3 (r : Rec) (w : World) (hm : r.may = true) (hk : r.kind = 3) :
    Calls Try.prog 15 #[(.agg #[.int .i64 r.kind, .int .i64 r.gen, .int .i64 r.index, .int .i64 r.term, .int .i64 r.vote, .int .i64 r.many, .int .i64 r.cmd.kind, .string r.cmd.key, .string r.cmd.val, .string r.cmd.old, .int .i64 r.cmd.rev, .int .i64 r.cmd.ses, .int .i64 r.cmd.seq, .string r.data])] w fun e w' => e = .returned (.tuple #[.string (B (encL r)), .int .i64 0]) ∧ Below w.heap.size w w' := by
  have HE : Hid (bodyL r = be 1 r.kind.toNat ++ (be 3 r.index.toNat ++ be 3 r.term.toNat ++ cmdL r.cmd)) := by show _ = _; simp [bodyL, hk]
  obtain ⟨a1, a2, a3, a4, a5⟩ := rec_bd3 r hm hk
  have hc := cmd_bd r.cmd a5
  have z1 := hc.key
  have z2 := hc.val
  have z3 := hc.old
  have hL := cmdL_length r.cmd
  clear a5
  have hk1 : (r.kind == 1) = false := by rw [hk]; rfl
  have hk2 : (r.kind == 2) = false := by rw [hk]; rfl
  have hk3 : (r.kind == 3) = true := by rw [hk]; rfl
  have hk0 : 0 ≤ r.kind := by omega
  have hk9 : r.kind ≤ 9 := by omega
  clear hk
  go_enter Try.func15, Try.ntmps15
  go_wp2_with (first | (go_at_call 50; refine (refMayRec r _).mono ?_; rintro e w1 ⟨rfl, hb1⟩; obtain ⟨x1, rfl⟩ := Below.ext hb1; clear hb1) | (go_at_call 51; refine (num1 _ _ (by omega) (by omega)).mono ?_; rintro e w2 ⟨rfl, hb2⟩; obtain ⟨x2, rfl⟩ := Below.ext hb2; clear hb2))
  refine wp_region_grows (by kernel_rfl) (by kernel_rfl) ?_
  repeat (first | quiet_step (fail) | (refine wpQuiet_step (fun K hK => ?_); go_simp; simp only [↓IntWalk.iteOmega]; go_simp; refine hK _ ?_; clear hK K))
  quiet_step (exact Calls.grows (num3 _ _ (by omega) (by omega)))
  repeat (first | quiet_step (fail) | (refine wpQuiet_step (fun K hK => ?_); go_simp; simp only [↓IntWalk.iteOmega]; go_simp; refine hK _ ?_; clear hK K))
  quiet_step (exact Calls.grows (num3 _ _ (by omega) (by omega)))
  repeat (first | quiet_step (fail) | (refine wpQuiet_step (fun K hK => ?_); go_simp; simp only [↓IntWalk.iteOmega]; go_simp; refine hK _ ?_; clear hK K))
  quiet_step (exact Calls.grows (refCommand r.cmd _ hc))
  repeat (first | quiet_step (fail) | (refine wpQuiet_step (fun K hK => ?_); go_simp; simp only [↓IntWalk.iteOmega]; go_simp; refine hK _ ?_; clear hK K))
  refine wpQuiet_nil ?_
  rintro _ ⟨x, rfl⟩
  go_wp2_with (first | (go_at_call 13; refine (refSum _ _ (by simp only [B_size, List.length_append, be_length, len_data, cmdL_length]; unfold maxLen; omega)).mono ?_; rintro e w3 ⟨rfl, rfl⟩) | (go_at_call 51; refine (num4 _ _ (Nat.le_of_lt (Nat.lt_of_lt_of_le (By.sum_lt _) (by omega)))).mono ?_; rintro e w4 ⟨rfl, hb4⟩; obtain ⟨x4, rfl⟩ := Below.ext hb4; clear hb4))
  go_ret2
  exact ⟨ret2_str (by simp only [encL, HE.out, List.append_assoc]) rfl, (by repeat (first | exact Below.refl _ _ | assumption | refine Gr.ext ?_ _ | refine Gr.alloc ?_ _ | refine Gr.drew ?_ | (refine Gr.set ?_ (by first | (simp; done) | (simp; omega)) _)))⟩

set_option maxHeartbeats 400000 in
theorem refEncode_no (r : Rec) (w : World) (hm : r.may = false) :
    Calls Try.prog 15 #[(.agg #[.int .i64 r.kind, .int .i64 r.gen, .int .i64 r.index, .int .i64 r.term, .int .i64 r.vote, .int .i64 r.many, .int .i64 r.cmd.kind, .string r.cmd.key, .string r.cmd.val, .string r.cmd.old, .int .i64 r.cmd.rev, .int .i64 r.cmd.ses, .int .i64 r.cmd.seq, .string r.data])] w fun e w' => e = .returned (.tuple #[.string (B []), .int .i64 2]) ∧ Below w.heap.size w w' := by
  go_enter Try.func15, Try.ntmps15
  go_wp2_with (go_at_call 50; refine (refMayRec r _).mono ?_; rintro e w1 ⟨rfl, hb1⟩; obtain ⟨x1, rfl⟩ := Below.ext hb1; clear hb1)
  go_ret2
  exact ⟨rfl, (by repeat (first | exact Below.refl _ _ | assumption | refine Gr.ext ?_ _ | refine Gr.alloc ?_ _ | refine Gr.drew ?_ | (refine Gr.set ?_ (by first | (simp; done) | (simp; omega)) _)))⟩
theorem refEncode (r : Rec) (w : World) (hm : r.may = true) :
    Calls Try.prog 15 #[(.agg #[.int .i64 r.kind, .int .i64 r.gen, .int .i64 r.index, .int .i64 r.term, .int .i64 r.vote, .int .i64 r.many, .int .i64 r.cmd.kind, .string r.cmd.key, .string r.cmd.val, .string r.cmd.old, .int .i64 r.cmd.rev, .int .i64 r.cmd.ses, .int .i64 r.cmd.seq, .string r.data])] w fun e w' => e = .returned (.tuple #[.string (B (encL r)), .int .i64 0]) ∧ Below w.heap.size w w' := by
  rcases rec_kind r hm with h | h | h
  · exact refEncode1 r w hm h
  · exact refEncode2 r w hm h
  · exact refEncode3 r w hm h
end Go.Proofs.Ytcbbnmodjnnbeaa
/- The document's own reading: numbers and pieces at a place. -/
set_option linter.unusedSimpArgs false
set_option linter.unusedVariables false
namespace Go.Proofs.Ytcbbnmodjnnbeaa
open Go.RowKit

/-- The number of k bytes at a place; what lies beyond is 0. -/
def rd (s : List UInt8) (p : Nat) : Nat → Nat
  | 0 => 0
  | k + 1 => rd s p k * 256 + (s[p + k]?.getD 0).toNat
theorem rd_lt (s : List UInt8) (p k : Nat) : rd s p k < 256 ^ k := by
  induction k with
  | zero => simp [rd]
  | succ k ih =>
    have h := (s[p + k]?.getD 0).toNat_lt
    simp only [rd, Nat.pow_succ]
    omega
def cutL (s : List UInt8) (p n : Nat) : List UInt8 := if s.length < p + n then [] else (s.drop p).take n

set_option maxRecDepth 100000 in
set_option maxHeartbeats 400000 in
theorem refRead (s : ByteArray) (p k : Nat) (w : World) (hs : s.size ≤ maxLen) (hp : p ≤ 1000000000) (hk : k ≤ 3) :
    Calls Try.prog 57 #[.string s, .int .i64 p, .int .i64 k] w fun e w' => e = .returned (.int .i64 (rd s.data.toList p k)) ∧ w' = w := by
  unfold maxLen at hs
  go_enter Try.func57, Try.ntmps57
  go_wp2
  go_loop [7, 8] (fun m i => ∃ j : Nat, j ≤ k ∧ i = .int .i64 j ∧ m = .int .i64 (rd s.data.toList p j)) (fun _ i => k - (intOf i).toNat)
  case atStart => exact ⟨0, Nat.zero_le _, rfl, rfl⟩
  case round =>
    obtain ⟨j, hj, rfl, rfl⟩ := hrel
    have hr := rd_lt s.data.toList p j
    have hp1 : 256 ^ j ≤ 256 ^ 3 := Nat.pow_le_pow_right (by omega) (by omega)
    have HS : Hid (rd s.data.toList p (j + 1) = rd s.data.toList p j * 256 + (s.data.toList[p + j]?.getD 0).toNat) := rfl
    generalize hQ : rd s.data.toList p j = q at *
    have HQ : Hid (rd s.data.toList p j = q) := hQ
    clear hQ
    have hq : q < 16777216 := by omega
    clear hr hp1
    by_cases hlt : j < k
    · by_cases hin : p + j < s.size
      · have hb : (s[p + j].toNat : Int) < 256 := by have := s[p + j].toNat_lt; omega
        go_wp2
        refine ⟨⟨j + 1, by omega, val_int (by omega), ?_⟩, by simp [intOf]; omega⟩
        have hg : s.data.toList[p + j]? = some s[p + j] := by
          rw [List.getElem?_eq_getElem (by rw [len_data]; exact hin)]; rfl
        rw [HS.out, hg]
        exact val_int (by simp)
      · go_wp2
        refine ⟨⟨j + 1, by omega, val_int (by omega), ?_⟩, by simp [intOf]; omega⟩
        rw [HS.out, List.getElem?_eq_none (by rw [len_data]; omega)]
        exact val_int (by simp)
    · have hkk : j = k := by omega
      subst hkk
      go_wp2
      go_ret
      exact ⟨ret_int (by rw [HQ.out]), rfl⟩

theorem cutL_len (s : List UInt8) (p n : Nat) : (cutL s p n).length ≤ n := by
  unfold cutL; split
  · simp
  · simp; omega
theorem extract_list (s : ByteArray) (a b : Nat) : (s.extract a b).data.toList = (s.data.toList.drop a).take (b - a) := by
  rw [ByteArray.data_extract, Array.toList_extract]
set_option maxHeartbeats 400000 in
theorem refCut (s : ByteArray) (p n : Nat) (w : World) (hs : s.size ≤ maxLen) (hp : p ≤ 1000000000) (hn : n ≤ 1000000000) :
    Calls Try.prog 58 #[.string s, .int .i64 p, .int .i64 n] w fun e w' => e = .returned (.string (B (cutL s.data.toList p n))) ∧ w' = w := by
  unfold maxLen at hs
  by_cases h : s.size < p + n
  · have HC : Hid (cutL s.data.toList p n = []) := by show _ = _; unfold cutL; rw [if_pos (by rw [len_data]; exact h)]
    go_enter Try.func58, Try.ntmps58
    go_wp2
    go_ret
    exact ⟨ret_str (by rw [HC.out]; rfl), rfl⟩
  · have HC : Hid (cutL s.data.toList p n = (s.data.toList.drop p).take n) := by show _ = _; unfold cutL; rw [if_neg (by rw [len_data]; exact h)]
    go_enter Try.func58, Try.ntmps58
    go_wp2
    go_ret
    exact ⟨ret_str (by rw [HC.out, extract_list, B_list, show p + n - p = n from by omega]), rfl⟩

def cmdRd (s : List UInt8) (p : Nat) : Cmd :=
  let n1 := rd s (p + 5) 1
  let p2 := p + 6 + n1
  let n2 := rd s p2 1
  let p3 := p2 + 1 + n2
  let n3 := rd s p3 1
  ⟨rd s p 1, B (cutL s (p + 6) n1), B (cutL s (p2 + 1) n2), B (cutL s (p3 + 1) n3), rd s (p3 + 1 + n3) 3, rd s (p + 1) 1, rd s (p + 2) 3⟩

/-- A number at a place, named. -/
theorem rdAt (s : ByteArray) (p k : Int) (kn : Nat) (w : World) (hs : s.size ≤ maxLen) (h0 : 0 ≤ p) (h1 : p ≤ 1000000000) (hk : k = kn) (hk3 : kn ≤ 3) :
    Calls Try.prog 57 #[.string s, .int .i64 p, .int .i64 k] w fun e w' => ∃ n : Nat, n < 256 ^ kn ∧ e = .returned (.int .i64 n) ∧ Hid (rd s.data.toList p.toNat kn = n) ∧ w' = w := by
  obtain ⟨q, rfl⟩ := Int.eq_ofNat_of_zero_le h0
  subst hk
  exact (refRead s q kn w hs (by omega) hk3).mono fun e w' ⟨he, hw⟩ => ⟨_, rd_lt _ _ _, he, rfl, hw⟩
theorem cutAt (s : ByteArray) (p n : Int) (w : World) (hs : s.size ≤ maxLen) (h0 : 0 ≤ p) (h1 : p ≤ 1000000000) (hn : 0 ≤ n) (hn1 : n ≤ 1000000000) :
    Calls Try.prog 58 #[.string s, .int .i64 p, .int .i64 n] w fun e w' => ∃ b, e = .returned (.string b) ∧ Hid (b = B (cutL s.data.toList p.toNat n.toNat)) ∧ w' = w := by
  obtain ⟨q, rfl⟩ := Int.eq_ofNat_of_zero_le h0
  obtain ⟨m, rfl⟩ := Int.eq_ofNat_of_zero_le hn
  exact (refCut s q m w hs (by omega) (by omega)).mono fun e w' ⟨he, hw⟩ => ⟨_, he, rfl, hw⟩

set_option maxRecDepth 100000 in
set_option maxHeartbeats 1000000 in
theorem refCommandAt (s : ByteArray) (w : World) (hs : s.size ≤ maxLen) :
    Calls Try.prog 59 #[.string s, .int .i64 7] w fun e w' => ∃ c : Cmd, c = cmdRd s.data.toList 7 ∧ e = .returned (.agg #[.int .i64 c.kind, .string c.key, .string c.val, .string c.old, .int .i64 c.rev, .int .i64 c.ses, .int .i64 c.seq]) ∧ Below w.heap.size w w' := by
  have hs' : Hid (s.size ≤ maxLen) := hs
  clear hs
  go_enter Try.func59, Try.ntmps59
  go_wp2_with fail
  refine (rdAt s _ _ 1 _ hs'.out (by omega) (by omega) rfl (by omega)).mono ?_
  rintro e w1 ⟨kind, bk, rfl, Hk, rfl⟩
  go_wp2_with fail
  refine (rdAt s _ _ 1 _ hs'.out (by omega) (by omega) rfl (by omega)).mono ?_
  rintro e w1 ⟨ses, bs, rfl, Hs, rfl⟩
  go_wp2_with fail
  refine (rdAt s _ _ 3 _ hs'.out (by omega) (by omega) rfl (by omega)).mono ?_
  rintro e w1 ⟨seq, bq, rfl, Hq, rfl⟩
  go_wp2_with fail
  refine (rdAt s _ _ 1 _ hs'.out (by omega) (by omega) rfl (by omega)).mono ?_
  rintro e w1 ⟨n1, b1, rfl, H1, rfl⟩
  go_wp2_with fail
  refine (cutAt s _ _ _ hs'.out (by omega) (by omega) (by omega) (by omega)).mono ?_
  rintro e w1 ⟨key, rfl, Hkey, rfl⟩
  go_wp2_with fail
  refine (rdAt s _ _ 1 _ hs'.out (by omega) (by omega) rfl (by omega)).mono ?_
  rintro e w1 ⟨n2, b2, rfl, H2, rfl⟩
  go_wp2_with fail
  refine (cutAt s _ _ _ hs'.out (by omega) (by omega) (by omega) (by omega)).mono ?_
  rintro e w1 ⟨val, rfl, Hval, rfl⟩
  go_wp2_with fail
  refine (rdAt s _ _ 1 _ hs'.out (by omega) (by omega) rfl (by omega)).mono ?_
  rintro e w1 ⟨n3, b3, rfl, H3, rfl⟩
  go_wp2_with fail
  refine (cutAt s _ _ _ hs'.out (by omega) (by omega) (by omega) (by omega)).mono ?_
  rintro e w1 ⟨old, rfl, Hold, rfl⟩
  go_wp2_with fail
  refine (rdAt s _ _ 3 _ hs'.out (by omega) (by omega) rfl (by omega)).mono ?_
  rintro e w1 ⟨rev, br, rfl, Hr, rfl⟩
  go_wp2_with fail
  refine bodyPost_ret (v := .agg #[.int .i64 kind, .string key, .string val, .string old, .int .i64 rev, .int .i64 ses, .int .i64 seq]) (by simp [results, Try.results59, go_sem]) rfl ⟨⟨kind, key, val, old, rev, ses, seq⟩, ?_, rfl, (by repeat (first | exact Below.refl _ _ | assumption | refine Gr.ext ?_ _ | refine Gr.alloc ?_ _ | refine Gr.drew ?_ | (refine Gr.set ?_ (by first | (simp; done) | (simp; omega)) _)))⟩
  go_light
  have e1 : rd s.data.toList 12 1 = n1 := H1.out
  have e2 : rd s.data.toList (13 + n1) 1 = n2 := by have h := H2.out; rwa [show (13 + (n1 : Int)).toNat = 13 + n1 from by omega] at h
  have e3 : rd s.data.toList (13 + n1 + 1 + n2) 1 = n3 := by have h := H3.out; rwa [show (13 + (n1 : Int) + 1 + n2).toNat = 13 + n1 + 1 + n2 from by omega] at h
  have e4 : rd s.data.toList (13 + n1 + 1 + n2 + 1 + n3) 3 = rev := by have h := Hr.out; rwa [show (13 + (n1 : Int) + 1 + n2 + 1 + n3).toNat = 13 + n1 + 1 + n2 + 1 + n3 from by omega] at h
  have e5 : key = B (cutL s.data.toList 13 n1) := Hkey.out
  have e6 : val = B (cutL s.data.toList (13 + n1 + 1) n2) := by have h := Hval.out; rwa [show (13 + (n1 : Int) + 1).toNat = 13 + n1 + 1 from by omega] at h
  have e7 : old = B (cutL s.data.toList (13 + n1 + 1 + n2 + 1) n3) := by have h := Hold.out; rwa [show (13 + (n1 : Int) + 1 + n2 + 1).toNat = 13 + n1 + 1 + n2 + 1 from by omega] at h
  have e8 : rd s.data.toList 7 1 = kind := Hk.out
  have e9 : rd s.data.toList 8 1 = ses := Hs.out
  have e10 : rd s.data.toList 9 3 = seq := Hq.out
  simp only [cmdRd, Nat.reduceAdd, e1, e2, e3, e4, e8, e9, e10, ← e5, ← e6, ← e7]
end Go.Proofs.Ytcbbnmodjnnbeaa
