/- The document's own reading: numbers and pieces at a place. -/
import Derived.Test.YtcbbnmodjnnbeaaEncRef2
set_option linter.unusedSimpArgs false
set_option linter.unusedVariables false
namespace Go.Proofs.Ytcbbnmodjnnbeaa
open Go.RowKit

/-- The number of k bytes at a place; what lies beyond is 0. -/
def rd (s : List UInt8) (p : Nat) : Nat → Nat
  | 0 => 0
  | k + 1 => rd s p k * 256 + (s[p + k]?.getD 0).toNat
theorem rd_lt (s : List UInt8) (p k : Nat) : rd s p k < 256 ^ k := by
  induction k with
  | zero => simp [rd]
  | succ k ih =>
    have h := (s[p + k]?.getD 0).toNat_lt
    simp only [rd, Nat.pow_succ]
    omega
def cutL (s : List UInt8) (p n : Nat) : List UInt8 := if s.length < p + n then [] else (s.drop p).take n

set_option maxRecDepth 100000 in
set_option maxHeartbeats 400000 in
theorem refRead (s : ByteArray) (p k : Nat) (w : World) (hs : s.size ≤ maxLen) (hp : p ≤ 1000000000) (hk : k ≤ 3) :
    Calls Try.prog 57 #[.string s, .int .i64 p, .int .i64 k] w fun e w' => e = .returned (.int .i64 (rd s.data.toList p k)) ∧ w' = w := by
  unfold maxLen at hs
  go_enter Try.func57, Try.ntmps57
  go_wp2
  go_loop [7, 8] (fun m i => ∃ j : Nat, j ≤ k ∧ i = .int .i64 j ∧ m = .int .i64 (rd s.data.toList p j)) (fun _ i => k - (intOf i).toNat)
  case atStart => exact ⟨0, Nat.zero_le _, rfl, rfl⟩
  case round =>
    obtain ⟨j, hj, rfl, rfl⟩ := hrel
    have hr := rd_lt s.data.toList p j
    have hp1 : 256 ^ j ≤ 256 ^ 3 := Nat.pow_le_pow_right (by omega) (by omega)
    have HS : Hid (rd s.data.toList p (j + 1) = rd s.data.toList p j * 256 + (s.data.toList[p + j]?.getD 0).toNat) := rfl
    generalize hQ : rd s.data.toList p j = q at *
    have HQ : Hid (rd s.data.toList p j = q) := hQ
    clear hQ
    have hq : q < 16777216 := by omega
    clear hr hp1
    by_cases hlt : j < k
    · by_cases hin : p + j < s.size
      · have hb : (s[p + j].toNat : Int) < 256 := by have := s[p + j].toNat_lt; omega
        go_wp2
        refine ⟨⟨j + 1, by omega, val_int (by omega), ?_⟩, by simp [intOf]; omega⟩
        have hg : s.data.toList[p + j]? = some s[p + j] := by
          rw [List.getElem?_eq_getElem (by rw [len_data]; exact hin)]; rfl
        rw [HS.out, hg]
        exact val_int (by simp)
      · go_wp2
        refine ⟨⟨j + 1, by omega, val_int (by omega), ?_⟩, by simp [intOf]; omega⟩
        rw [HS.out, List.getElem?_eq_none (by rw [len_data]; omega)]
        exact val_int (by simp)
    · have hkk : j = k := by omega
      subst hkk
      go_wp2
      go_ret
      exact ⟨ret_int (by rw [HQ.out]), rfl⟩

theorem cutL_len (s : List UInt8) (p n : Nat) : (cutL s p n).length ≤ n := by
  unfold cutL; split
  · simp
  · simp; omega
theorem extract_list (s : ByteArray) (a b : Nat) : (s.extract a b).data.toList = (s.data.toList.drop a).take (b - a) := by
  rw [ByteArray.data_extract, Array.toList_extract]
set_option maxHeartbeats 400000 in
theorem refCut (s : ByteArray) (p n : Nat) (w : World) (hs : s.size ≤ maxLen) (hp : p ≤ 1000000000) (hn : n ≤ 1000000000) :
    Calls Try.prog 58 #[.string s, .int .i64 p, .int .i64 n] w fun e w' => e = .returned (.string (B (cutL s.data.toList p n))) ∧ w' = w := by
  unfold maxLen at hs
  by_cases h : s.size < p + n
  · have HC : Hid (cutL s.data.toList p n = []) := by show _ = _; unfold cutL; rw [if_pos (by rw [len_data]; exact h)]
    go_enter Try.func58, Try.ntmps58
    go_wp2
    go_ret
    exact ⟨ret_str (by rw [HC.out]; rfl), rfl⟩
  · have HC : Hid (cutL s.data.toList p n = (s.data.toList.drop p).take n) := by show _ = _; unfold cutL; rw [if_neg (by rw [len_data]; exact h)]
    go_enter Try.func58, Try.ntmps58
    go_wp2
    go_ret
    exact ⟨ret_str (by rw [HC.out, extract_list, B_list, show p + n - p = n from by omega]), rfl⟩

def cmdRd (s : List UInt8) (p : Nat) : Cmd :=
  let n1 := rd s (p + 5) 1
  let p2 := p + 6 + n1
  let n2 := rd s p2 1
  let p3 := p2 + 1 + n2
  let n3 := rd s p3 1
  ⟨rd s p 1, B (cutL s (p + 6) n1), B (cutL s (p2 + 1) n2), B (cutL s (p3 + 1) n3), rd s (p3 + 1 + n3) 3, rd s (p + 1) 1, rd s (p + 2) 3⟩

/-- A number at a place, named. -/
theorem rdAt (s : ByteArray) (p k : Int) (kn : Nat) (w : World) (hs : s.size ≤ maxLen) (h0 : 0 ≤ p) (h1 : p ≤ 1000000000) (hk : k = kn) (hk3 : kn ≤ 3) :
    Calls Try.prog 57 #[.string s, .int .i64 p, .int .i64 k] w fun e w' => ∃ n : Nat, n < 256 ^ kn ∧ e = .returned (.int .i64 n) ∧ Hid (rd s.data.toList p.toNat kn = n) ∧ w' = w := by
  obtain ⟨q, rfl⟩ := Int.eq_ofNat_of_zero_le h0
  subst hk
  exact (refRead s q kn w hs (by omega) hk3).mono fun e w' ⟨he, hw⟩ => ⟨_, rd_lt _ _ _, he, rfl, hw⟩
theorem cutAt (s : ByteArray) (p n : Int) (w : World) (hs : s.size ≤ maxLen) (h0 : 0 ≤ p) (h1 : p ≤ 1000000000) (hn : 0 ≤ n) (hn1 : n ≤ 1000000000) :
    Calls Try.prog 58 #[.string s, .int .i64 p, .int .i64 n] w fun e w' => ∃ b, e = .returned (.string b) ∧ Hid (b = B (cutL s.data.toList p.toNat n.toNat)) ∧ w' = w := by
  obtain ⟨q, rfl⟩ := Int.eq_ofNat_of_zero_le h0
  obtain ⟨m, rfl⟩ := Int.eq_ofNat_of_zero_le hn
  exact (refCut s q m w hs (by omega) (by omega)).mono fun e w' ⟨he, hw⟩ => ⟨_, he, rfl, hw⟩

set_option maxRecDepth 100000 in
set_option maxHeartbeats 1000000 in
theorem refCommandAt (s : ByteArray) (w : World) (hs : s.size ≤ maxLen) :
    Calls Try.prog 59 #[.string s, .int .i64 7] w fun e w' => ∃ c : Cmd, c = cmdRd s.data.toList 7 ∧ e = .returned (.agg #[.int .i64 c.kind, .string c.key, .string c.val, .string c.old, .int .i64 c.rev, .int .i64 c.ses, .int .i64 c.seq]) ∧ Below w.heap.size w w' := by
  have hs' : Hid (s.size ≤ maxLen) := hs
  clear hs
  go_enter Try.func59, Try.ntmps59
  go_wp2_with fail
  refine (rdAt s _ _ 1 _ hs'.out (by omega) (by omega) rfl (by omega)).mono ?_
  rintro e w1 ⟨kind, bk, rfl, Hk, rfl⟩
  go_wp2_with fail
  refine (rdAt s _ _ 1 _ hs'.out (by omega) (by omega) rfl (by omega)).mono ?_
  rintro e w1 ⟨ses, bs, rfl, Hs, rfl⟩
  go_wp2_with fail
  refine (rdAt s _ _ 3 _ hs'.out (by omega) (by omega) rfl (by omega)).mono ?_
  rintro e w1 ⟨seq, bq, rfl, Hq, rfl⟩
  go_wp2_with fail
  refine (rdAt s _ _ 1 _ hs'.out (by omega) (by omega) rfl (by omega)).mono ?_
  rintro e w1 ⟨n1, b1, rfl, H1, rfl⟩
  go_wp2_with fail
  refine (cutAt s _ _ _ hs'.out (by omega) (by omega) (by omega) (by omega)).mono ?_
  rintro e w1 ⟨key, rfl, Hkey, rfl⟩
  go_wp2_with fail
  refine (rdAt s _ _ 1 _ hs'.out (by omega) (by omega) rfl (by omega)).mono ?_
  rintro e w1 ⟨n2, b2, rfl, H2, rfl⟩
  go_wp2_with fail
  refine (cutAt s _ _ _ hs'.out (by omega) (by omega) (by omega) (by omega)).mono ?_
  rintro e w1 ⟨val, rfl, Hval, rfl⟩
  go_wp2_with fail
  refine (rdAt s _ _ 1 _ hs'.out (by omega) (by omega) rfl (by omega)).mono ?_
  rintro e w1 ⟨n3, b3, rfl, H3, rfl⟩
  go_wp2_with fail
  refine (cutAt s _ _ _ hs'.out (by omega) (by omega) (by omega) (by omega)).mono ?_
  rintro e w1 ⟨old, rfl, Hold, rfl⟩
  go_wp2_with fail
  refine (rdAt s _ _ 3 _ hs'.out (by omega) (by omega) rfl (by omega)).mono ?_
  rintro e w1 ⟨rev, br, rfl, Hr, rfl⟩
  go_wp2_with fail
  refine bodyPost_ret (v := .agg #[.int .i64 kind, .string key, .string val, .string old, .int .i64 rev, .int .i64 ses, .int .i64 seq]) (by simp [results, Try.results59, go_sem]) rfl ⟨⟨kind, key, val, old, rev, ses, seq⟩, ?_, rfl, (by repeat (first | exact Below.refl _ _ | assumption | refine Gr.ext ?_ _ | refine Gr.alloc ?_ _ | refine Gr.drew ?_ | (refine Gr.set ?_ (by first | (simp; done) | (simp; omega)) _)))⟩
  go_light
  have e1 : rd s.data.toList 12 1 = n1 := H1.out
  have e2 : rd s.data.toList (13 + n1) 1 = n2 := by have h := H2.out; rwa [show (13 + (n1 : Int)).toNat = 13 + n1 from by omega] at h
  have e3 : rd s.data.toList (13 + n1 + 1 + n2) 1 = n3 := by have h := H3.out; rwa [show (13 + (n1 : Int) + 1 + n2).toNat = 13 + n1 + 1 + n2 from by omega] at h
  have e4 : rd s.data.toList (13 + n1 + 1 + n2 + 1 + n3) 3 = rev := by have h := Hr.out; rwa [show (13 + (n1 : Int) + 1 + n2 + 1 + n3).toNat = 13 + n1 + 1 + n2 + 1 + n3 from by omega] at h
  have e5 : key = B (cutL s.data.toList 13 n1) := Hkey.out
  have e6 : val = B (cutL s.data.toList (13 + n1 + 1) n2) := by have h := Hval.out; rwa [show (13 + (n1 : Int) + 1).toNat = 13 + n1 + 1 from by omega] at h
  have e7 : old = B (cutL s.data.toList (13 + n1 + 1 + n2 + 1) n3) := by have h := Hold.out; rwa [show (13 + (n1 : Int) + 1 + n2 + 1).toNat = 13 + n1 + 1 + n2 + 1 from by omega] at h
  have e8 : rd s.data.toList 7 1 = kind := Hk.out
  have e9 : rd s.data.toList 8 1 = ses := Hs.out
  have e10 : rd s.data.toList 9 3 = seq := Hq.out
  simp only [cmdRd, Nat.reduceAdd, e1, e2, e3, e4, e8, e9, e10, ← e5, ← e6, ← e7]
end Go.Proofs.Ytcbbnmodjnnbeaa
