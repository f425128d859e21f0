/- Load: a version's parts, and whether it may be. -/
import Derived.Test.YtcbbnmodjnnbeaaRdRec
import Derived.Test.YtcbbnmodjnnbeaaLoadP
import Derived.Test.YtcbbnmodjnnbeaaClone
set_option linter.unusedSimpArgs false
set_option linter.unusedVariables false
namespace Go.Proofs.Ytcbbnmodjnnbeaa
open Go.RowKit

set_option maxHeartbeats 400000 in
theorem readerFlag (p : Nat) (l : List UInt8) (b : Bool) (w : World) (h : RdAt w p l b) (hl : l.length ≤ maxLen) :
    Calls Try.prog 127 #[.pointer (some ⟨p, 0, none⟩)] w fun e w' => e = .returned (.bool (flagR l b).1) ∧ RdAt w' p (flagR l b).2.1 (flagR l b).2.2 ∧ w.grownBy w' (some p) := by
  have hlt := byteL_lt l b
  by_cases hn : 1 < (byteL l b).1
  · have HT : Hid (flagR l b = (false, [], true)) := by show _ = _; unfold flagR; rw [if_pos hn]
    go_enter Try.func127, Try.ntmps127
    go_wp2_with fail
    refine (readerByte p l b w h hl).mono ?_
    rintro e w1 ⟨rfl, hr, hg⟩
    generalize byteL l b = t at *
    have hn2 : (1 : Int) < (t.1 : Int) := by omega
    go_wp2_with fail
    refine (readerStop p _ _ _ hr).mono ?_
    rintro e w2 ⟨rfl, hr2, hg2⟩
    go_wp2_with fail
    go_ret
    rw [HT.out]
    exact ⟨ret_bool (by simp; omega), hr2, grownBy_trans hg hg2⟩
  · have HT : Hid (flagR l b = ((byteL l b).1 == 1, (byteL l b).2)) := by show _ = _; unfold flagR; rw [if_neg hn]
    go_enter Try.func127, Try.ntmps127
    go_wp2_with fail
    refine (readerByte p l b w h hl).mono ?_
    rintro e w1 ⟨rfl, hr, hg⟩
    generalize byteL l b = t at *
    have hn2 : ¬ (1 : Int) < (t.1 : Int) := by omega
    go_wp2_with fail
    go_ret
    rw [HT.out]
    exact ⟨ret_bool (by rw [Bool.eq_iff_iff]; simp; omega), hr, hg⟩
theorem flagN (p : Nat) (l : List UInt8) (b : Bool) (w : World) (h : RdAt w p l b) (hl : l.length ≤ maxLen) :
    Calls Try.prog 127 #[.pointer (some ⟨p, 0, none⟩)] w fun e w' => ∃ t, Hid (t = flagR l b) ∧ Hid (t.2.1.length ≤ maxLen) ∧ True ∧ e = .returned (.bool t.1) ∧ ∃ x, w' = (w.putRd p t.2.1 t.2.2).ext x :=
  (readerFlag p l b w h hl).mono fun e w' ⟨he, hr, hg⟩ => ⟨_, rfl, (by
    show (flagR l b).2.1.length ≤ maxLen
    unfold flagR
    split
    · exact Nat.zero_le _
    · exact Nat.le_trans (byteL_len l b) hl), trivial, he, rd_form h hr hg⟩
theorem textN' (p : Nat) (l : List UInt8) (b : Bool) (w : World) (h : RdAt w p l b) (hl : l.length ≤ maxLen) :
    Calls Try.prog 148 #[.pointer (some ⟨p, 0, none⟩)] w fun e w' => ∃ t, Hid (t = textL l b) ∧ Hid (t.2.1.length ≤ maxLen) ∧ Hid (t.1.length ≤ 255) ∧ e = .returned (.string (B t.1)) ∧ ∃ x, w' = (w.putRd p t.2.1 t.2.2).ext x :=
  (rdText p l b w h hl).mono fun e w' ⟨he, hx⟩ => ⟨_, rfl, takeL_len' _ _ _ (Nat.le_trans (byteL_len l b) hl), (by
    show (textL l b).1.length ≤ 255
    have h1 := byteL_lt l b
    have h2 := byteL_len l b
    unfold textL takeL
    split
    · exact Nat.zero_le _
    · rw [List.length_take]; omega), he, hx⟩
set_option maxRecDepth 100000 in
set_option maxHeartbeats 1000000 in
theorem takeVersion (p : Nat) (l : List UInt8) (b : Bool) (w : World) (h : RdAt w p l b) (hl : l.length ≤ maxLen) :
    Calls Try.prog 125 #[.pointer (some ⟨p, 0, none⟩)] w fun e w' => ∃ (x : ByteArray × Ver) (t : List UInt8 × Bool), Hid ((x, t) = verR l b) ∧ Hid (t.1.length ≤ maxLen) ∧ e = .returned (.tuple #[.string x.1, .agg #[.int .i64 x.2.rev, .string x.2.val, .bool x.2.gone]]) ∧ ∃ y, w' = (w.putRd p t.1 t.2).ext y := by
  have hl0 : Hid (l.length ≤ maxLen) := hl
  clear hl
  have hp := h.lt
  have hp0 : ¬ w.heap.size = p := by omega
  have hp1 : ¬ w.heap.size + 1 = p := by omega
  go_enter Try.func125, Try.ntmps125
  go_wp2_with fail
  refine (textN' p l b _ (by repeat (first | with_reducible exact h | with_reducible exact RdAt.ok h | with_reducible refine RdAt.ext ?_ _ | with_reducible refine RdOk.at ?_ _ _ | with_reducible refine RdAt.alloc ?_ _ | with_reducible refine RdOk.ext ?_ _ | with_reducible refine RdOk.put ?_ _ _ | with_reducible refine RdOk.alloc ?_ _)) (hl0.out)).mono ?_
  rintro e w1 ⟨t1, H1, hl1, hv1, rfl, x1, rfl⟩
  go_wp2_with fail
  refine (stringsClone _ _ (by rw [B_size]; have := hv1.out; omega)).mono ?_
  rintro e w2 ⟨rfl, hb2⟩
  obtain ⟨x2, rfl⟩ := Below.ext hb2
  clear hb2
  go_wp2_with fail
  refine (numN p t1.2.1 t1.2.2 _ (by repeat (first | with_reducible exact h | with_reducible exact RdAt.ok h | with_reducible refine RdAt.ext ?_ _ | with_reducible refine RdOk.at ?_ _ _ | with_reducible refine RdAt.alloc ?_ _ | with_reducible refine RdOk.ext ?_ _ | with_reducible refine RdOk.put ?_ _ _ | with_reducible refine RdOk.alloc ?_ _)) (hl1.out)).mono ?_
  rintro e w3 ⟨t3, H3, hl3, hv3, rfl, x3, rfl⟩
  go_wp2_with fail
  refine (flagN p t3.2.1 t3.2.2 _ (by repeat (first | with_reducible exact h | with_reducible exact RdAt.ok h | with_reducible refine RdAt.ext ?_ _ | with_reducible refine RdOk.at ?_ _ _ | with_reducible refine RdAt.alloc ?_ _ | with_reducible refine RdOk.ext ?_ _ | with_reducible refine RdOk.put ?_ _ _ | with_reducible refine RdOk.alloc ?_ _)) (hl3.out)).mono ?_
  rintro e w4 ⟨t4, H4, hl4, hv4, rfl, x4, rfl⟩
  go_wp2_with fail
  refine (textN' p t4.2.1 t4.2.2 _ (by repeat (first | with_reducible exact h | with_reducible exact RdAt.ok h | with_reducible refine RdAt.ext ?_ _ | with_reducible refine RdOk.at ?_ _ _ | with_reducible refine RdAt.alloc ?_ _ | with_reducible refine RdOk.ext ?_ _ | with_reducible refine RdOk.put ?_ _ _ | with_reducible refine RdOk.alloc ?_ _)) (hl4.out)).mono ?_
  rintro e w5 ⟨t5, H5, hl5, hv5, rfl, x5, rfl⟩
  go_wp2_with fail
  refine (stringsClone _ _ (by rw [B_size]; have := hv5.out; omega)).mono ?_
  rintro e w6 ⟨rfl, hb6⟩
  obtain ⟨x6, rfl⟩ := Below.ext hb6
  clear hb6
  go_wp2_with fail
  go_region_with fail
  go_wp2_with fail
  refine bodyPost_ret (v := .tuple #[.string (B t1.1), .agg #[.int .i64 t3.1, .string (B t5.1), .bool t4.1]]) (by simp [results, Try.results125, go_sem, hp, hp0, hp1]) rfl ⟨(B t1.1, ⟨t3.1, B t5.1, t4.1⟩), t5.2, ?_, hl5, rfl, ?_⟩
  · go_light
    have e1 := H1.out
    have e3 := H3.out
    have e4 := H4.out
    have e5 := H5.out
    clear H1 H3 H4 H5
    subst e5 e4 e3 e1
    rfl
  · exact rd_form h (by repeat (first | with_reducible exact h | with_reducible exact RdAt.ok h | with_reducible refine RdAt.ext ?_ _ | with_reducible refine RdOk.at ?_ _ _ | with_reducible refine RdAt.alloc ?_ _ | with_reducible refine RdOk.ext ?_ _ | with_reducible refine RdOk.put ?_ _ _ | with_reducible refine RdOk.alloc ?_ _)) (by repeat (first | with_reducible exact grownBy_refl _ _ | with_reducible refine gb_ext ?_ _ | with_reducible refine gb_put ?_ _ _ | with_reducible refine gb_alloc ?_ _))
end Go.Proofs.Ytcbbnmodjnnbeaa
