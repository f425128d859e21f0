/- The program's reading of commands and records. -/
import Derived.Test.YtcbbnmodjnnbeaaRdForm
set_option linter.unusedSimpArgs false
set_option linter.unusedVariables false
namespace Go.Proofs.Ytcbbnmodjnnbeaa
open Go.RowKit
attribute [local go_sem] World.ext_ext

theorem takeL_len' (l : List UInt8) (b : Bool) (n : Nat) (h : l.length ≤ maxLen) : (takeL l b n).2.1.length ≤ maxLen := Nat.le_trans (takeL_len l b n) h
theorem byteN (p : Nat) (l : List UInt8) (b : Bool) (w : World) (h : RdAt w p l b) (hl : l.length ≤ maxLen) :
    Calls Try.prog 109 #[.pointer (some ⟨p, 0, none⟩)] w fun e w' => ∃ t, Hid (t = byteL l b) ∧ Hid (t.2.1.length ≤ maxLen) ∧ t.1 ≤ 255 ∧ e = .returned (.int .i64 t.1) ∧ ∃ x, w' = (w.putRd p t.2.1 t.2.2).ext x :=
  (rdByte p l b w h hl).mono fun e w' ⟨he, hx⟩ => ⟨_, rfl, Nat.le_trans (byteL_len l b) hl, byteL_lt l b, he, hx⟩
theorem numN (p : Nat) (l : List UInt8) (b : Bool) (w : World) (h : RdAt w p l b) (hl : l.length ≤ maxLen) :
    Calls Try.prog 78 #[.pointer (some ⟨p, 0, none⟩)] w fun e w' => ∃ t, Hid (t = numL l b) ∧ Hid (t.2.1.length ≤ maxLen) ∧ t.1 < 16777216 ∧ e = .returned (.int .i64 t.1) ∧ ∃ x, w' = (w.putRd p t.2.1 t.2.2).ext x :=
  (rdNumber p l b w h hl).mono fun e w' ⟨he, hx⟩ => ⟨_, rfl, Nat.le_trans (numL_len l b) hl, numL_lt l b, he, hx⟩
theorem textN (p : Nat) (l : List UInt8) (b : Bool) (w : World) (h : RdAt w p l b) (hl : l.length ≤ maxLen) :
    Calls Try.prog 148 #[.pointer (some ⟨p, 0, none⟩)] w fun e w' => ∃ t, Hid (t = textL l b) ∧ Hid (t.2.1.length ≤ maxLen) ∧ True ∧ e = .returned (.string (B t.1)) ∧ ∃ x, w' = (w.putRd p t.2.1 t.2.2).ext x :=
  (rdText p l b w h hl).mono fun e w' ⟨he, hx⟩ => ⟨_, rfl, takeL_len' _ _ _ (Nat.le_trans (byteL_len l b) hl), trivial, he, hx⟩
theorem blockN (p : Nat) (l : List UInt8) (b : Bool) (w : World) (h : RdAt w p l b) (hl : l.length ≤ maxLen) :
    Calls Try.prog 60 #[.pointer (some ⟨p, 0, none⟩)] w fun e w' => ∃ t, Hid (t = blockL l b) ∧ Hid (t.2.1.length ≤ maxLen) ∧ True ∧ e = .returned (.string (B t.1)) ∧ ∃ x, w' = (w.putRd p t.2.1 t.2.2).ext x :=
  (rdBlock p l b w h hl).mono fun e w' ⟨he, hx⟩ => ⟨_, rfl, takeL_len' _ _ _ (Nat.le_trans (numL_len l b) hl), trivial, he, hx⟩
theorem gb_alloc {w w1 : World} {p : Nat} (h : w.grownBy w1 (some p)) (o : Obj) : w.grownBy (w1.alloc o) (some p) :=
  grownBy_trans h ⟨rfl, rfl, rfl, by simp, fun k hk _ => Below.heap_alloc _ _ _ hk⟩
theorem gb_ext {w w1 : World} {p : Nat} (h : w.grownBy w1 (some p)) (x : Grow) : w.grownBy (w1.ext x) (some p) :=
  grownBy_trans h ⟨rfl, rfl, rfl, (Below.of_ext w1 x).size, fun k hk _ => (Below.of_ext w1 x).block k hk⟩
theorem gb_put {w w1 : World} {p : Nat} (h : w.grownBy w1 (some p)) (l : List UInt8) (b : Bool) : w.grownBy (w1.putRd p l b) (some p) :=
  grownBy_trans h (grownBy_trans (grownBy_set w1 p 0 _) (grownBy_set _ p 1 _))

def cmdLd (l : List UInt8) (b : Bool) : Cmd × List UInt8 × Bool :=
  let t1 := byteL l b
  let t2 := byteL t1.2.1 t1.2.2
  let t3 := numL t2.2.1 t2.2.2
  let t4 := textL t3.2.1 t3.2.2
  let t5 := textL t4.2.1 t4.2.2
  let t6 := textL t5.2.1 t5.2.2
  let t7 := numL t6.2.1 t6.2.2
  (⟨t1.1, B t4.1, B t5.1, B t6.1, t7.1, t2.1, t3.1⟩, t7.2)

set_option maxRecDepth 100000 in
set_option maxHeartbeats 1000000 in
theorem readCommand (p : Nat) (l : List UInt8) (b : Bool) (w : World) (h : RdAt w p l b) (hl : l.length ≤ maxLen) :
    Calls Try.prog 110 #[.pointer (some ⟨p, 0, none⟩)] w fun e w' => ∃ c : Cmd, ∃ t, Hid ((c, t) = cmdLd l b) ∧ Hid (t.1.length ≤ maxLen) ∧ e = .returned (.agg #[.int .i64 c.kind, .string c.key, .string c.val, .string c.old, .int .i64 c.rev, .int .i64 c.ses, .int .i64 c.seq]) ∧ ∃ x, w' = (w.putRd p t.1 t.2).ext x := by
  have hl0 : Hid (l.length ≤ maxLen) := hl
  clear hl
  have hp := h.lt
  have hp0 : ¬ w.heap.size = p := by omega
  have hp1 : ¬ w.heap.size + 1 = p := by omega
  go_enter Try.func110, Try.ntmps110
  go_wp2_with fail
  refine (byteN p l b _ (by repeat (first | with_reducible exact h | with_reducible exact RdAt.ok h | with_reducible refine RdAt.ext ?_ _ | with_reducible refine RdOk.at ?_ _ _ | with_reducible refine RdAt.alloc ?_ _ | with_reducible refine RdOk.ext ?_ _ | with_reducible refine RdOk.put ?_ _ _ | with_reducible refine RdOk.alloc ?_ _)) (hl0.out)).mono ?_
  rintro e w1 ⟨t1, H1, hl1, hv1, rfl, x1, rfl⟩
  go_wp2_with fail
  refine (byteN p t1.2.1 t1.2.2 _ (by repeat (first | with_reducible exact h | with_reducible exact RdAt.ok h | with_reducible refine RdAt.ext ?_ _ | with_reducible refine RdOk.at ?_ _ _ | with_reducible refine RdAt.alloc ?_ _ | with_reducible refine RdOk.ext ?_ _ | with_reducible refine RdOk.put ?_ _ _ | with_reducible refine RdOk.alloc ?_ _)) (hl1.out)).mono ?_
  rintro e w2 ⟨t2, H2, hl2, hv2, rfl, x2, rfl⟩
  go_wp2_with fail
  refine (numN p t2.2.1 t2.2.2 _ (by repeat (first | with_reducible exact h | with_reducible exact RdAt.ok h | with_reducible refine RdAt.ext ?_ _ | with_reducible refine RdOk.at ?_ _ _ | with_reducible refine RdAt.alloc ?_ _ | with_reducible refine RdOk.ext ?_ _ | with_reducible refine RdOk.put ?_ _ _ | with_reducible refine RdOk.alloc ?_ _)) (hl2.out)).mono ?_
  rintro e w3 ⟨t3, H3, hl3, hv3, rfl, x3, rfl⟩
  go_wp2_with fail
  refine (textN p t3.2.1 t3.2.2 _ (by repeat (first | with_reducible exact h | with_reducible exact RdAt.ok h | with_reducible refine RdAt.ext ?_ _ | with_reducible refine RdOk.at ?_ _ _ | with_reducible refine RdAt.alloc ?_ _ | with_reducible refine RdOk.ext ?_ _ | with_reducible refine RdOk.put ?_ _ _ | with_reducible refine RdOk.alloc ?_ _)) (hl3.out)).mono ?_
  rintro e w4 ⟨t4, H4, hl4, hv4, rfl, x4, rfl⟩
  go_wp2_with fail
  refine (textN p t4.2.1 t4.2.2 _ (by repeat (first | with_reducible exact h | with_reducible exact RdAt.ok h | with_reducible refine RdAt.ext ?_ _ | with_reducible refine RdOk.at ?_ _ _ | with_reducible refine RdAt.alloc ?_ _ | with_reducible refine RdOk.ext ?_ _ | with_reducible refine RdOk.put ?_ _ _ | with_reducible refine RdOk.alloc ?_ _)) (hl4.out)).mono ?_
  rintro e w5 ⟨t5, H5, hl5, hv5, rfl, x5, rfl⟩
  go_wp2_with fail
  refine (textN p t5.2.1 t5.2.2 _ (by repeat (first | with_reducible exact h | with_reducible exact RdAt.ok h | with_reducible refine RdAt.ext ?_ _ | with_reducible refine RdOk.at ?_ _ _ | with_reducible refine RdAt.alloc ?_ _ | with_reducible refine RdOk.ext ?_ _ | with_reducible refine RdOk.put ?_ _ _ | with_reducible refine RdOk.alloc ?_ _)) (hl5.out)).mono ?_
  rintro e w6 ⟨t6, H6, hl6, hv6, rfl, x6, rfl⟩
  go_wp2_with fail
  refine (numN p t6.2.1 t6.2.2 _ (by repeat (first | with_reducible exact h | with_reducible exact RdAt.ok h | with_reducible refine RdAt.ext ?_ _ | with_reducible refine RdOk.at ?_ _ _ | with_reducible refine RdAt.alloc ?_ _ | with_reducible refine RdOk.ext ?_ _ | with_reducible refine RdOk.put ?_ _ _ | with_reducible refine RdOk.alloc ?_ _)) (hl6.out)).mono ?_
  rintro e w7 ⟨t7, H7, hl7, hv7, rfl, x7, rfl⟩
  go_wp2_with fail
  refine bodyPost_ret (v := .agg #[.int .i64 t1.1, .string (B t4.1), .string (B t5.1), .string (B t6.1), .int .i64 t7.1, .int .i64 t2.1, .int .i64 t3.1]) (by simp [results, Try.results110, go_sem, hp, hp0, hp1]) rfl ⟨⟨t1.1, B t4.1, B t5.1, B t6.1, t7.1, t2.1, t3.1⟩, t7.2, ?_, hl7, rfl, ?_⟩
  · go_light
    have e1 := H1.out
    have e2 := H2.out
    have e3 := H3.out
    have e4 := H4.out
    have e5 := H5.out
    have e6 := H6.out
    have e7 := H7.out
    clear H1 H2 H3 H4 H5 H6 H7
    show _ = _
    simp only [cmdLd, ← e1, ← e2, ← e3, ← e4, ← e5, ← e6, ← e7]
  · exact rd_form h (by repeat (first | with_reducible exact h | with_reducible exact RdAt.ok h | with_reducible refine RdAt.ext ?_ _ | with_reducible refine RdOk.at ?_ _ _ | with_reducible refine RdAt.alloc ?_ _ | with_reducible refine RdOk.ext ?_ _ | with_reducible refine RdOk.put ?_ _ _ | with_reducible refine RdOk.alloc ?_ _)) (by repeat (first | with_reducible exact grownBy_refl _ _ | with_reducible refine gb_ext ?_ _ | with_reducible refine gb_put ?_ _ _ | with_reducible refine gb_alloc ?_ _))
end Go.Proofs.Ytcbbnmodjnnbeaa
/- The program's reading of records. -/
set_option linter.unusedSimpArgs false
set_option linter.unusedVariables false
namespace Go.Proofs.Ytcbbnmodjnnbeaa
open Go.RowKit
attribute [local go_sem] World.ext_ext

def recLd1 (k : Nat) (l : List UInt8) (b : Bool) : Rec × List UInt8 × Bool :=
  let t2 := numL l b
  let t3 := numL t2.2.1 t2.2.2
  let t4 := numL t3.2.1 t3.2.2
  let t5 := numL t4.2.1 t4.2.2
  let t6 := blockL t5.2.1 t5.2.2
  (⟨k, t2.1, t3.1, t4.1, 0, t5.1, Cmd.zero, B t6.1⟩, t6.2)
def recLd2 (k : Nat) (l : List UInt8) (b : Bool) : Rec × List UInt8 × Bool :=
  let t2 := numL l b
  let t3 := byteL t2.2.1 t2.2.2
  (⟨k, 0, 0, t2.1, (t3.1 : Int) - 1, 0, Cmd.zero, ⟨#[]⟩⟩, t3.2)
def recLd3 (k : Nat) (l : List UInt8) (b : Bool) : Rec × List UInt8 × Bool :=
  let t2 := numL l b
  let t3 := numL t2.2.1 t2.2.2
  let t4 := cmdLd t3.2.1 t3.2.2
  (⟨k, 0, t2.1, t3.1, 0, 0, t4.1, ⟨#[]⟩⟩, t4.2)
def recLd (l : List UInt8) (b : Bool) : Rec × List UInt8 × Bool :=
  if (byteL l b).1 = 1 then recLd1 (byteL l b).1 (byteL l b).2.1 (byteL l b).2.2
  else if (byteL l b).1 = 2 then recLd2 (byteL l b).1 (byteL l b).2.1 (byteL l b).2.2
  else if (byteL l b).1 = 3 then recLd3 (byteL l b).1 (byteL l b).2.1 (byteL l b).2.2
  else (⟨(byteL l b).1, 0, 0, 0, 0, 0, Cmd.zero, ⟨#[]⟩⟩, (byteL l b).2)

set_option maxRecDepth 100000 in
set_option maxHeartbeats 1000000 in
theorem readRecord1 (p : Nat) (l : List UInt8) (b : Bool) (w : World) (h : RdAt w p l b) (hl : l.length ≤ maxLen) (hk : (byteL l b).1 = 1) :
    Calls Try.prog 55 #[.pointer (some ⟨p, 0, none⟩)] w fun e w' => ∃ r : Rec, ∃ t, Hid ((r, t) = recLd l b) ∧ Hid (t.1.length ≤ maxLen) ∧ e = .returned (.agg #[.int .i64 r.kind, .int .i64 r.gen, .int .i64 r.index, .int .i64 r.term, .int .i64 r.vote, .int .i64 r.many, .int .i64 r.cmd.kind, .string r.cmd.key, .string r.cmd.val, .string r.cmd.old, .int .i64 r.cmd.rev, .int .i64 r.cmd.ses, .int .i64 r.cmd.seq, .string r.data]) ∧ ∃ x, w' = (w.putRd p t.1 t.2).ext x := by
  have hl0 : Hid (l.length ≤ maxLen) := hl
  clear hl
  have hp := h.lt
  have hp0 : ¬ w.heap.size = p := by omega
  have hp1 : ¬ w.heap.size + 1 = p := by omega
  go_enter Try.func55, Try.ntmps55
  go_wp2_with fail
  refine (byteN p l b _ (by repeat (first | with_reducible exact h | with_reducible exact RdAt.ok h | with_reducible refine RdAt.ext ?_ _ | with_reducible refine RdOk.at ?_ _ _ | with_reducible refine RdAt.alloc ?_ _ | with_reducible refine RdOk.ext ?_ _ | with_reducible refine RdOk.put ?_ _ _ | with_reducible refine RdOk.alloc ?_ _)) (hl0.out)).mono ?_
  rintro e w1 ⟨t1, H1, hl1, hv1, rfl, x1, rfl⟩
  have HK : Hid (t1.1 = 1) := by show _ = _; rw [H1.out]; exact hk
  have g1 : ((t1.1 : Int) == 1) = true := by rw [HK.out]; rfl
  have g2 : ((t1.1 : Int) == 2) = false := by rw [HK.out]; rfl
  have g3 : ((t1.1 : Int) == 3) = false := by rw [HK.out]; rfl
  go_wp2_with fail
  refine (numN p t1.2.1 t1.2.2 _ (by repeat (first | with_reducible exact h | with_reducible exact RdAt.ok h | with_reducible refine RdAt.ext ?_ _ | with_reducible refine RdOk.at ?_ _ _ | with_reducible refine RdAt.alloc ?_ _ | with_reducible refine RdOk.ext ?_ _ | with_reducible refine RdOk.put ?_ _ _ | with_reducible refine RdOk.alloc ?_ _)) (hl1.out)).mono ?_
  rintro e w2 ⟨t2, H2, hl2, hv2, rfl, x2, rfl⟩
  go_wp2_with fail
  refine (numN p t2.2.1 t2.2.2 _ (by repeat (first | with_reducible exact h | with_reducible exact RdAt.ok h | with_reducible refine RdAt.ext ?_ _ | with_reducible refine RdOk.at ?_ _ _ | with_reducible refine RdAt.alloc ?_ _ | with_reducible refine RdOk.ext ?_ _ | with_reducible refine RdOk.put ?_ _ _ | with_reducible refine RdOk.alloc ?_ _)) (hl2.out)).mono ?_
  rintro e w3 ⟨t3, H3, hl3, hv3, rfl, x3, rfl⟩
  go_wp2_with fail
  refine (numN p t3.2.1 t3.2.2 _ (by repeat (first | with_reducible exact h | with_reducible exact RdAt.ok h | with_reducible refine RdAt.ext ?_ _ | with_reducible refine RdOk.at ?_ _ _ | with_reducible refine RdAt.alloc ?_ _ | with_reducible refine RdOk.ext ?_ _ | with_reducible refine RdOk.put ?_ _ _ | with_reducible refine RdOk.alloc ?_ _)) (hl3.out)).mono ?_
  rintro e w4 ⟨t4, H4, hl4, hv4, rfl, x4, rfl⟩
  go_wp2_with fail
  refine (numN p t4.2.1 t4.2.2 _ (by repeat (first | with_reducible exact h | with_reducible exact RdAt.ok h | with_reducible refine RdAt.ext ?_ _ | with_reducible refine RdOk.at ?_ _ _ | with_reducible refine RdAt.alloc ?_ _ | with_reducible refine RdOk.ext ?_ _ | with_reducible refine RdOk.put ?_ _ _ | with_reducible refine RdOk.alloc ?_ _)) (hl4.out)).mono ?_
  rintro e w5 ⟨t5, H5, hl5, hv5, rfl, x5, rfl⟩
  go_wp2_with fail
  refine (blockN p t5.2.1 t5.2.2 _ (by repeat (first | with_reducible exact h | with_reducible exact RdAt.ok h | with_reducible refine RdAt.ext ?_ _ | with_reducible refine RdOk.at ?_ _ _ | with_reducible refine RdAt.alloc ?_ _ | with_reducible refine RdOk.ext ?_ _ | with_reducible refine RdOk.put ?_ _ _ | with_reducible refine RdOk.alloc ?_ _)) (hl5.out)).mono ?_
  rintro e w6 ⟨t6, H6, hl6, hv6, rfl, x6, rfl⟩
  go_wp2_with fail
  refine bodyPost_ret (v := .agg #[.int .i64 t1.1, .int .i64 t2.1, .int .i64 t3.1, .int .i64 t4.1, .int .i64 0, .int .i64 t5.1, .int .i64 0, .string ⟨#[]⟩, .string ⟨#[]⟩, .string ⟨#[]⟩, .int .i64 0, .int .i64 0, .int .i64 0, .string (B t6.1)]) (by simp [results, Try.results55, go_sem, hp, hp0, hp1]) rfl ⟨⟨t1.1, t2.1, t3.1, t4.1, 0, t5.1, ⟨0, ⟨#[]⟩, ⟨#[]⟩, ⟨#[]⟩, 0, 0, 0⟩, B t6.1⟩, t6.2, ?_, hl6, rfl, ?_⟩
  · go_light
    have e1 := H1.out
    have e2 := H2.out
    have e3 := H3.out
    have e4 := H4.out
    have e5 := H5.out
    have e6 := H6.out
    clear H1 H2 H3 H4 H5 H6
    show _ = _
    unfold recLd
    rw [← e1]
    rw [if_pos HK.out]
    simp only [recLd1, ← e2, ← e3, ← e4, ← e5, ← e6]
    rfl
  · exact rd_form h (by repeat (first | with_reducible exact h | with_reducible exact RdAt.ok h | with_reducible refine RdAt.ext ?_ _ | with_reducible refine RdOk.at ?_ _ _ | with_reducible refine RdAt.alloc ?_ _ | with_reducible refine RdOk.ext ?_ _ | with_reducible refine RdOk.put ?_ _ _ | with_reducible refine RdOk.alloc ?_ _)) (by repeat (first | with_reducible exact grownBy_refl _ _ | with_reducible refine gb_ext ?_ _ | with_reducible refine gb_put ?_ _ _ | with_reducible refine gb_alloc ?_ _))

set_option maxRecDepth 100000 in
set_option maxHeartbeats 1000000 in
theorem readRecord2 (p : Nat) (l : List UInt8) (b : Bool) (w : World) (h : RdAt w p l b) (hl : l.length ≤ maxLen) (hk : (byteL l b).1 = 2) :
    Calls Try.prog 55 #[.pointer (some ⟨p, 0, none⟩)] w fun e w' => ∃ r : Rec, ∃ t, Hid ((r, t) = recLd l b) ∧ Hid (t.1.length ≤ maxLen) ∧ e = .returned (.agg #[.int .i64 r.kind, .int .i64 r.gen, .int .i64 r.index, .int .i64 r.term, .int .i64 r.vote, .int .i64 r.many, .int .i64 r.cmd.kind, .string r.cmd.key, .string r.cmd.val, .string r.cmd.old, .int .i64 r.cmd.rev, .int .i64 r.cmd.ses, .int .i64 r.cmd.seq, .string r.data]) ∧ ∃ x, w' = (w.putRd p t.1 t.2).ext x := by
  have hl0 : Hid (l.length ≤ maxLen) := hl
  clear hl
  have hp := h.lt
  have hp0 : ¬ w.heap.size = p := by omega
  have hp1 : ¬ w.heap.size + 1 = p := by omega
  go_enter Try.func55, Try.ntmps55
  go_wp2_with fail
  refine (byteN p l b _ (by repeat (first | with_reducible exact h | with_reducible exact RdAt.ok h | with_reducible refine RdAt.ext ?_ _ | with_reducible refine RdOk.at ?_ _ _ | with_reducible refine RdAt.alloc ?_ _ | with_reducible refine RdOk.ext ?_ _ | with_reducible refine RdOk.put ?_ _ _ | with_reducible refine RdOk.alloc ?_ _)) (hl0.out)).mono ?_
  rintro e w1 ⟨t1, H1, hl1, hv1, rfl, x1, rfl⟩
  have HK : Hid (t1.1 = 2) := by show _ = _; rw [H1.out]; exact hk
  have g1 : ((t1.1 : Int) == 1) = false := by rw [HK.out]; rfl
  have g2 : ((t1.1 : Int) == 2) = true := by rw [HK.out]; rfl
  have g3 : ((t1.1 : Int) == 3) = false := by rw [HK.out]; rfl
  go_wp2_with fail
  refine (numN p t1.2.1 t1.2.2 _ (by repeat (first | with_reducible exact h | with_reducible exact RdAt.ok h | with_reducible refine RdAt.ext ?_ _ | with_reducible refine RdOk.at ?_ _ _ | with_reducible refine RdAt.alloc ?_ _ | with_reducible refine RdOk.ext ?_ _ | with_reducible refine RdOk.put ?_ _ _ | with_reducible refine RdOk.alloc ?_ _)) (hl1.out)).mono ?_
  rintro e w2 ⟨t2, H2, hl2, hv2, rfl, x2, rfl⟩
  go_wp2_with fail
  refine (byteN p t2.2.1 t2.2.2 _ (by repeat (first | with_reducible exact h | with_reducible exact RdAt.ok h | with_reducible refine RdAt.ext ?_ _ | with_reducible refine RdOk.at ?_ _ _ | with_reducible refine RdAt.alloc ?_ _ | with_reducible refine RdOk.ext ?_ _ | with_reducible refine RdOk.put ?_ _ _ | with_reducible refine RdOk.alloc ?_ _)) (hl2.out)).mono ?_
  rintro e w3 ⟨t3, H3, hl3, hv3, rfl, x3, rfl⟩
  go_wp2_with fail
  refine bodyPost_ret (v := .agg #[.int .i64 t1.1, .int .i64 0, .int .i64 0, .int .i64 t2.1, .int .i64 ((t3.1 : Int) - 1), .int .i64 0, .int .i64 0, .string ⟨#[]⟩, .string ⟨#[]⟩, .string ⟨#[]⟩, .int .i64 0, .int .i64 0, .int .i64 0, .string ⟨#[]⟩]) (by simp [results, Try.results55, go_sem, hp, hp0, hp1]) rfl ⟨⟨t1.1, 0, 0, t2.1, (t3.1 : Int) - 1, 0, ⟨0, ⟨#[]⟩, ⟨#[]⟩, ⟨#[]⟩, 0, 0, 0⟩, ⟨#[]⟩⟩, t3.2, ?_, hl3, rfl, ?_⟩
  · go_light
    have e1 := H1.out
    have e2 := H2.out
    have e3 := H3.out
    clear H1 H2 H3
    show _ = _
    unfold recLd
    rw [← e1]
    rw [if_neg (by rw [HK.out]; omega), if_pos HK.out]
    simp only [recLd2, ← e2, ← e3]
    rfl
  · exact rd_form h (by repeat (first | with_reducible exact h | with_reducible exact RdAt.ok h | with_reducible refine RdAt.ext ?_ _ | with_reducible refine RdOk.at ?_ _ _ | with_reducible refine RdAt.alloc ?_ _ | with_reducible refine RdOk.ext ?_ _ | with_reducible refine RdOk.put ?_ _ _ | with_reducible refine RdOk.alloc ?_ _)) (by repeat (first | with_reducible exact grownBy_refl _ _ | with_reducible refine gb_ext ?_ _ | with_reducible refine gb_put ?_ _ _ | with_reducible refine gb_alloc ?_ _))

set_option maxRecDepth 100000 in
set_option maxHeartbeats 1000000 in
theorem readRecord3 (p : Nat) (l : List UInt8) (b : Bool) (w : World) (h : RdAt w p l b) (hl : l.length ≤ maxLen) (hk : (byteL l b).1 = 3) :
    Calls Try.prog 55 #[.pointer (some ⟨p, 0, none⟩)] w fun e w' => ∃ r : Rec, ∃ t, Hid ((r, t) = recLd l b) ∧ Hid (t.1.length ≤ maxLen) ∧ e = .returned (.agg #[.int .i64 r.kind, .int .i64 r.gen, .int .i64 r.index, .int .i64 r.term, .int .i64 r.vote, .int .i64 r.many, .int .i64 r.cmd.kind, .string r.cmd.key, .string r.cmd.val, .string r.cmd.old, .int .i64 r.cmd.rev, .int .i64 r.cmd.ses, .int .i64 r.cmd.seq, .string r.data]) ∧ ∃ x, w' = (w.putRd p t.1 t.2).ext x := by
  have hl0 : Hid (l.length ≤ maxLen) := hl
  clear hl
  have hp := h.lt
  have hp0 : ¬ w.heap.size = p := by omega
  have hp1 : ¬ w.heap.size + 1 = p := by omega
  go_enter Try.func55, Try.ntmps55
  go_wp2_with fail
  refine (byteN p l b _ (by repeat (first | with_reducible exact h | with_reducible exact RdAt.ok h | with_reducible refine RdAt.ext ?_ _ | with_reducible refine RdOk.at ?_ _ _ | with_reducible refine RdAt.alloc ?_ _ | with_reducible refine RdOk.ext ?_ _ | with_reducible refine RdOk.put ?_ _ _ | with_reducible refine RdOk.alloc ?_ _)) (hl0.out)).mono ?_
  rintro e w1 ⟨t1, H1, hl1, hv1, rfl, x1, rfl⟩
  have HK : Hid (t1.1 = 3) := by show _ = _; rw [H1.out]; exact hk
  have g1 : ((t1.1 : Int) == 1) = false := by rw [HK.out]; rfl
  have g2 : ((t1.1 : Int) == 2) = false := by rw [HK.out]; rfl
  have g3 : ((t1.1 : Int) == 3) = true := by rw [HK.out]; rfl
  go_wp2_with fail
  refine (numN p t1.2.1 t1.2.2 _ (by repeat (first | with_reducible exact h | with_reducible exact RdAt.ok h | with_reducible refine RdAt.ext ?_ _ | with_reducible refine RdOk.at ?_ _ _ | with_reducible refine RdAt.alloc ?_ _ | with_reducible refine RdOk.ext ?_ _ | with_reducible refine RdOk.put ?_ _ _ | with_reducible refine RdOk.alloc ?_ _)) (hl1.out)).mono ?_
  rintro e w2 ⟨t2, H2, hl2, hv2, rfl, x2, rfl⟩
  go_wp2_with fail
  refine (numN p t2.2.1 t2.2.2 _ (by repeat (first | with_reducible exact h | with_reducible exact RdAt.ok h | with_reducible refine RdAt.ext ?_ _ | with_reducible refine RdOk.at ?_ _ _ | with_reducible refine RdAt.alloc ?_ _ | with_reducible refine RdOk.ext ?_ _ | with_reducible refine RdOk.put ?_ _ _ | with_reducible refine RdOk.alloc ?_ _)) (hl2.out)).mono ?_
  rintro e w3 ⟨t3, H3, hl3, hv3, rfl, x3, rfl⟩
  go_wp2_with fail
  refine (readCommand p t3.2.1 t3.2.2 _ (by repeat (first | with_reducible exact h | with_reducible exact RdAt.ok h | with_reducible refine RdAt.ext ?_ _ | with_reducible refine RdOk.at ?_ _ _ | with_reducible refine RdAt.alloc ?_ _ | with_reducible refine RdOk.ext ?_ _ | with_reducible refine RdOk.put ?_ _ _ | with_reducible refine RdOk.alloc ?_ _)) (hl3.out)).mono ?_
  rintro e w4 ⟨c, t4, H4, hl4, rfl, x4, rfl⟩
  go_wp2_with fail
  refine bodyPost_ret (v := .agg #[.int .i64 t1.1, .int .i64 0, .int .i64 t2.1, .int .i64 t3.1, .int .i64 0, .int .i64 0, .int .i64 c.kind, .string c.key, .string c.val, .string c.old, .int .i64 c.rev, .int .i64 c.ses, .int .i64 c.seq, .string ⟨#[]⟩]) (by simp [results, Try.results55, go_sem, hp, hp0, hp1]) rfl ⟨⟨t1.1, 0, t2.1, t3.1, 0, 0, c, ⟨#[]⟩⟩, t4, ?_, hl4, rfl, ?_⟩
  · go_light
    have e1 := H1.out
    have e2 := H2.out
    have e3 := H3.out
    have e4 := H4.out
    clear H1 H2 H3 H4
    show _ = _
    unfold recLd
    rw [← e1]
    rw [if_neg (by rw [HK.out]; omega), if_neg (by rw [HK.out]; omega), if_pos HK.out]
    simp only [recLd3, ← e2, ← e3, ← e4]
  · exact rd_form h (by repeat (first | with_reducible exact h | with_reducible exact RdAt.ok h | with_reducible refine RdAt.ext ?_ _ | with_reducible refine RdOk.at ?_ _ _ | with_reducible refine RdAt.alloc ?_ _ | with_reducible refine RdOk.ext ?_ _ | with_reducible refine RdOk.put ?_ _ _ | with_reducible refine RdOk.alloc ?_ _)) (by repeat (first | with_reducible exact grownBy_refl _ _ | with_reducible refine gb_ext ?_ _ | with_reducible refine gb_put ?_ _ _ | with_reducible refine gb_alloc ?_ _))

set_option maxRecDepth 100000 in
set_option maxHeartbeats 1000000 in
theorem readRecord0 (p : Nat) (l : List UInt8) (b : Bool) (w : World) (h : RdAt w p l b) (hl : l.length ≤ maxLen) (hk : (byteL l b).1 ≠ 1 ∧ (byteL l b).1 ≠ 2 ∧ (byteL l b).1 ≠ 3) :
    Calls Try.prog 55 #[.pointer (some ⟨p, 0, none⟩)] w fun e w' => ∃ r : Rec, ∃ t, Hid ((r, t) = recLd l b) ∧ Hid (t.1.length ≤ maxLen) ∧ e = .returned (.agg #[.int .i64 r.kind, .int .i64 r.gen, .int .i64 r.index, .int .i64 r.term, .int .i64 r.vote, .int .i64 r.many, .int .i64 r.cmd.kind, .string r.cmd.key, .string r.cmd.val, .string r.cmd.old, .int .i64 r.cmd.rev, .int .i64 r.cmd.ses, .int .i64 r.cmd.seq, .string r.data]) ∧ ∃ x, w' = (w.putRd p t.1 t.2).ext x := by
  have hl0 : Hid (l.length ≤ maxLen) := hl
  clear hl
  have hp := h.lt
  have hp0 : ¬ w.heap.size = p := by omega
  have hp1 : ¬ w.heap.size + 1 = p := by omega
  go_enter Try.func55, Try.ntmps55
  go_wp2_with fail
  refine (byteN p l b _ (by repeat (first | with_reducible exact h | with_reducible exact RdAt.ok h | with_reducible refine RdAt.ext ?_ _ | with_reducible refine RdOk.at ?_ _ _ | with_reducible refine RdAt.alloc ?_ _ | with_reducible refine RdOk.ext ?_ _ | with_reducible refine RdOk.put ?_ _ _ | with_reducible refine RdOk.alloc ?_ _)) (hl0.out)).mono ?_
  rintro e w1 ⟨t1, H1, hl1, hv1, rfl, x1, rfl⟩
  have HK : Hid (t1.1 ≠ 1 ∧ t1.1 ≠ 2 ∧ t1.1 ≠ 3) := by show _ ∧ _; rw [H1.out]; exact hk
  have HK' := HK.out
  have g1 : ((t1.1 : Int) == 1) = false := by rw [beq_eq_false_iff_ne]; omega
  have g2 : ((t1.1 : Int) == 2) = false := by rw [beq_eq_false_iff_ne]; omega
  have g3 : ((t1.1 : Int) == 3) = false := by rw [beq_eq_false_iff_ne]; omega
  clear HK' hk
  go_wp2_with fail
  refine bodyPost_ret (v := .agg #[.int .i64 t1.1, .int .i64 0, .int .i64 0, .int .i64 0, .int .i64 0, .int .i64 0, .int .i64 0, .string ⟨#[]⟩, .string ⟨#[]⟩, .string ⟨#[]⟩, .int .i64 0, .int .i64 0, .int .i64 0, .string ⟨#[]⟩]) (by simp [results, Try.results55, go_sem, hp, hp0, hp1]) rfl ⟨⟨t1.1, 0, 0, 0, 0, 0, ⟨0, ⟨#[]⟩, ⟨#[]⟩, ⟨#[]⟩, 0, 0, 0⟩, ⟨#[]⟩⟩, t1.2, ?_, hl1, rfl, ?_⟩
  · go_light
    have e1 := H1.out
    clear H1
    show _ = _
    unfold recLd
    rw [← e1]
    rw [if_neg HK.out.1, if_neg HK.out.2.1, if_neg HK.out.2.2]
    rfl
  · exact rd_form h (by repeat (first | with_reducible exact h | with_reducible exact RdAt.ok h | with_reducible refine RdAt.ext ?_ _ | with_reducible refine RdOk.at ?_ _ _ | with_reducible refine RdAt.alloc ?_ _ | with_reducible refine RdOk.ext ?_ _ | with_reducible refine RdOk.put ?_ _ _ | with_reducible refine RdOk.alloc ?_ _)) (by repeat (first | with_reducible exact grownBy_refl _ _ | with_reducible refine gb_ext ?_ _ | with_reducible refine gb_put ?_ _ _ | with_reducible refine gb_alloc ?_ _))

theorem readRecord (p : Nat) (l : List UInt8) (b : Bool) (w : World) (h : RdAt w p l b) (hl : l.length ≤ maxLen) :
    Calls Try.prog 55 #[.pointer (some ⟨p, 0, none⟩)] w fun e w' => ∃ r : Rec, ∃ t, Hid ((r, t) = recLd l b) ∧ Hid (t.1.length ≤ maxLen) ∧ e = .returned (.agg #[.int .i64 r.kind, .int .i64 r.gen, .int .i64 r.index, .int .i64 r.term, .int .i64 r.vote, .int .i64 r.many, .int .i64 r.cmd.kind, .string r.cmd.key, .string r.cmd.val, .string r.cmd.old, .int .i64 r.cmd.rev, .int .i64 r.cmd.ses, .int .i64 r.cmd.seq, .string r.data]) ∧ ∃ x, w' = (w.putRd p t.1 t.2).ext x := by
  by_cases h1 : (byteL l b).1 = 1
  · exact readRecord1 p l b w h hl h1
  · by_cases h2 : (byteL l b).1 = 2
    · exact readRecord2 p l b w h hl h2
    · by_cases h3 : (byteL l b).1 = 3
      · exact readRecord3 p l b w h hl h3
      · exact readRecord0 p l b w h hl ⟨h1, h2, h3⟩
end Go.Proofs.Ytcbbnmodjnnbeaa
