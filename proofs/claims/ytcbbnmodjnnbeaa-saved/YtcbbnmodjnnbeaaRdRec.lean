/- The program's reading of commands and records. -/
import Derived.Test.YtcbbnmodjnnbeaaRdForm
set_option linter.unusedSimpArgs false
set_option linter.unusedVariables false
namespace Go.Proofs.Ytcbbnmodjnnbeaa
open Go.RowKit
attribute [local go_sem] World.ext_ext

theorem takeL_len' (l : List UInt8) (b : Bool) (n : Nat) (h : l.length ≤ maxLen) : (takeL l b n).2.1.length ≤ maxLen := Nat.le_trans (takeL_len l b n) h
theorem byteN (p : Nat) (l : List UInt8) (b : Bool) (w : World) (h : RdAt w p l b) (hl : l.length ≤ maxLen) :
    Calls Try.prog 109 #[.pointer (some ⟨p, 0, none⟩)] w fun e w' => ∃ t, Hid (t = byteL l b) ∧ Hid (t.2.1.length ≤ maxLen) ∧ t.1 ≤ 255 ∧ e = .returned (.int .i64 t.1) ∧ ∃ x, w' = (w.putRd p t.2.1 t.2.2).ext x :=
  (rdByte p l b w h hl).mono fun e w' ⟨he, hx⟩ => ⟨_, rfl, Nat.le_trans (byteL_len l b) hl, byteL_lt l b, he, hx⟩
theorem numN (p : Nat) (l : List UInt8) (b : Bool) (w : World) (h : RdAt w p l b) (hl : l.length ≤ maxLen) :
    Calls Try.prog 78 #[.pointer (some ⟨p, 0, none⟩)] w fun e w' => ∃ t, Hid (t = numL l b) ∧ Hid (t.2.1.length ≤ maxLen) ∧ t.1 < 16777216 ∧ e = .returned (.int .i64 t.1) ∧ ∃ x, w' = (w.putRd p t.2.1 t.2.2).ext x :=
  (rdNumber p l b w h hl).mono fun e w' ⟨he, hx⟩ => ⟨_, rfl, Nat.le_trans (numL_len l b) hl, numL_lt l b, he, hx⟩
theorem textN (p : Nat) (l : List UInt8) (b : Bool) (w : World) (h : RdAt w p l b) (hl : l.length ≤ maxLen) :
    Calls Try.prog 148 #[.pointer (some ⟨p, 0, none⟩)] w fun e w' => ∃ t, Hid (t = textL l b) ∧ Hid (t.2.1.length ≤ maxLen) ∧ True ∧ e = .returned (.string (B t.1)) ∧ ∃ x, w' = (w.putRd p t.2.1 t.2.2).ext x :=
  (rdText p l b w h hl).mono fun e w' ⟨he, hx⟩ => ⟨_, rfl, takeL_len' _ _ _ (Nat.le_trans (byteL_len l b) hl), trivial, he, hx⟩
theorem blockN (p : Nat) (l : List UInt8) (b : Bool) (w : World) (h : RdAt w p l b) (hl : l.length ≤ maxLen) :
    Calls Try.prog 60 #[.pointer (some ⟨p, 0, none⟩)] w fun e w' => ∃ t, Hid (t = blockL l b) ∧ Hid (t.2.1.length ≤ maxLen) ∧ True ∧ e = .returned (.string (B t.1)) ∧ ∃ x, w' = (w.putRd p t.2.1 t.2.2).ext x :=
  (rdBlock p l b w h hl).mono fun e w' ⟨he, hx⟩ => ⟨_, rfl, takeL_len' _ _ _ (Nat.le_trans (numL_len l b) hl), trivial, he, hx⟩
theorem gb_alloc {w w1 : World} {p : Nat} (h : w.grownBy w1 (some p)) (o : Obj) : w.grownBy (w1.alloc o) (some p) :=
  grownBy_trans h ⟨rfl, rfl, rfl, by simp, fun k hk _ => Below.heap_alloc _ _ _ hk⟩
theorem gb_ext {w w1 : World} {p : Nat} (h : w.grownBy w1 (some p)) (x : Grow) : w.grownBy (w1.ext x) (some p) :=
  grownBy_trans h ⟨rfl, rfl, rfl, (Below.of_ext w1 x).size, fun k hk _ => (Below.of_ext w1 x).block k hk⟩
theorem gb_put {w w1 : World} {p : Nat} (h : w.grownBy w1 (some p)) (l : List UInt8) (b : Bool) : w.grownBy (w1.putRd p l b) (some p) :=
  grownBy_trans h (grownBy_trans (grownBy_set w1 p 0 _) (grownBy_set _ p 1 _))

def cmdLd (l : List UInt8) (b : Bool) : Cmd × List UInt8 × Bool :=
  let t1 := byteL l b
  let t2 := byteL t1.2.1 t1.2.2
  let t3 := numL t2.2.1 t2.2.2
  let t4 := textL t3.2.1 t3.2.2
  let t5 := textL t4.2.1 t4.2.2
  let t6 := textL t5.2.1 t5.2.2
  let t7 := numL t6.2.1 t6.2.2
  (⟨t1.1, B t4.1, B t5.1, B t6.1, t7.1, t2.1, t3.1⟩, t7.2)

set_option maxRecDepth 100000 in
set_option maxHeartbeats 1000000 in
theorem readCommand (p : Nat) (l : List UInt8) (b : Bool) (w : World) (h : RdAt w p l b) (hl : l.length ≤ maxLen) :
    Calls Try.prog 110 #[.pointer (some ⟨p, 0, none⟩)] w fun e w' => ∃ c : Cmd, ∃ t, Hid ((c, t) = cmdLd l b) ∧ Hid (t.1.length ≤ maxLen) ∧ e = .returned (.agg #[.int .i64 c.kind, .string c.key, .string c.val, .string c.old, .int .i64 c.rev, .int .i64 c.ses, .int .i64 c.seq]) ∧ ∃ x, w' = (w.putRd p t.1 t.2).ext x := by
  have hl0 : Hid (l.length ≤ maxLen) := hl
  clear hl
  have hp := h.lt
  have hp0 : ¬ w.heap.size = p := by omega
  have hp1 : ¬ w.heap.size + 1 = p := by omega
  go_enter Try.func110, Try.ntmps110
  go_wp2_with fail
  refine (byteN p l b _ (by repeat (first | with_reducible exact h | with_reducible exact RdAt.ok h | with_reducible refine RdAt.ext ?_ _ | with_reducible refine RdOk.at ?_ _ _ | with_reducible refine RdAt.alloc ?_ _ | with_reducible refine RdOk.ext ?_ _ | with_reducible refine RdOk.put ?_ _ _ | with_reducible refine RdOk.alloc ?_ _)) (hl0.out)).mono ?_
  rintro e w1 ⟨t1, H1, hl1, hv1, rfl, x1, rfl⟩
  go_wp2_with fail
  refine (byteN p t1.2.1 t1.2.2 _ (by repeat (first | with_reducible exact h | with_reducible exact RdAt.ok h | with_reducible refine RdAt.ext ?_ _ | with_reducible refine RdOk.at ?_ _ _ | with_reducible refine RdAt.alloc ?_ _ | with_reducible refine RdOk.ext ?_ _ | with_reducible refine RdOk.put ?_ _ _ | with_reducible refine RdOk.alloc ?_ _)) (hl1.out)).mono ?_
  rintro e w2 ⟨t2, H2, hl2, hv2, rfl, x2, rfl⟩
  go_wp2_with fail
  refine (numN p t2.2.1 t2.2.2 _ (by repeat (first | with_reducible exact h | with_reducible exact RdAt.ok h | with_reducible refine RdAt.ext ?_ _ | with_reducible refine RdOk.at ?_ _ _ | with_reducible refine RdAt.alloc ?_ _ | with_reducible refine RdOk.ext ?_ _ | with_reducible refine RdOk.put ?_ _ _ | with_reducible refine RdOk.alloc ?_ _)) (hl2.out)).mono ?_
  rintro e w3 ⟨t3, H3, hl3, hv3, rfl, x3, rfl⟩
  go_wp2_with fail
  refine (textN p t3.2.1 t3.2.2 _ (by repeat (first | with_reducible exact h | with_reducible exact RdAt.ok h | with_reducible refine RdAt.ext ?_ _ | with_reducible refine RdOk.at ?_ _ _ | with_reducible refine RdAt.alloc ?_ _ | with_reducible refine RdOk.ext ?_ _ | with_reducible refine RdOk.put ?_ _ _ | with_reducible refine RdOk.alloc ?_ _)) (hl3.out)).mono ?_
  rintro e w4 ⟨t4, H4, hl4, hv4, rfl, x4, rfl⟩
  go_wp2_with fail
  refine (textN p t4.2.1 t4.2.2 _ (by repeat (first | with_reducible exact h | with_reducible exact RdAt.ok h | with_reducible refine RdAt.ext ?_ _ | with_reducible refine RdOk.at ?_ _ _ | with_reducible refine RdAt.alloc ?_ _ | with_reducible refine RdOk.ext ?_ _ | with_reducible refine RdOk.put ?_ _ _ | with_reducible refine RdOk.alloc ?_ _)) (hl4.out)).mono ?_
  rintro e w5 ⟨t5, H5, hl5, hv5, rfl, x5, rfl⟩
  go_wp2_with fail
  refine (textN p t5.2.1 t5.2.2 _ (by repeat (first | with_reducible exact h | with_reducible exact RdAt.ok h | with_reducible refine RdAt.ext ?_ _ | with_reducible refine RdOk.at ?_ _ _ | with_reducible refine RdAt.alloc ?_ _ | with_reducible refine RdOk.ext ?_ _ | with_reducible refine RdOk.put ?_ _ _ | with_reducible refine RdOk.alloc ?_ _)) (hl5.out)).mono ?_
  rintro e w6 ⟨t6, H6, hl6, hv6, rfl, x6, rfl⟩
  go_wp2_with fail
  refine (numN p t6.2.1 t6.2.2 _ (by repeat (first | with_reducible exact h | with_reducible exact RdAt.ok h | with_reducible refine RdAt.ext ?_ _ | with_reducible refine RdOk.at ?_ _ _ | with_reducible refine RdAt.alloc ?_ _ | with_reducible refine RdOk.ext ?_ _ | with_reducible refine RdOk.put ?_ _ _ | with_reducible refine RdOk.alloc ?_ _)) (hl6.out)).mono ?_
  rintro e w7 ⟨t7, H7, hl7, hv7, rfl, x7, rfl⟩
  go_wp2_with fail
  refine bodyPost_ret (v := .agg #[.int .i64 t1.1, .string (B t4.1), .string (B t5.1), .string (B t6.1), .int .i64 t7.1, .int .i64 t2.1, .int .i64 t3.1]) (by simp [results, Try.results110, go_sem, hp, hp0, hp1]) rfl ⟨⟨t1.1, B t4.1, B t5.1, B t6.1, t7.1, t2.1, t3.1⟩, t7.2, ?_, hl7, rfl, ?_⟩
  · go_light
    have e1 := H1.out
    have e2 := H2.out
    have e3 := H3.out
    have e4 := H4.out
    have e5 := H5.out
    have e6 := H6.out
    have e7 := H7.out
    clear H1 H2 H3 H4 H5 H6 H7
    show _ = _
    simp only [cmdLd, ← e1, ← e2, ← e3, ← e4, ← e5, ← e6, ← e7]
  · exact rd_form h (by repeat (first | with_reducible exact h | with_reducible exact RdAt.ok h | with_reducible refine RdAt.ext ?_ _ | with_reducible refine RdOk.at ?_ _ _ | with_reducible refine RdAt.alloc ?_ _ | with_reducible refine RdOk.ext ?_ _ | with_reducible refine RdOk.put ?_ _ _ | with_reducible refine RdOk.alloc ?_ _)) (by repeat (first | with_reducible exact grownBy_refl _ _ | with_reducible refine gb_ext ?_ _ | with_reducible refine gb_put ?_ _ _ | with_reducible refine gb_alloc ?_ _))
end Go.Proofs.Ytcbbnmodjnnbeaa
