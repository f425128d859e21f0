/- The program's Decode. -/
import Derived.Test.YtcbbnmodjnnbeaaRdRec2
import Derived.Test.YtcbbnmodjnnbeaaPack3
import Derived.Test.YtcbbnmodjnnbeaaClone
import Derived.Test.YtcbbnmodjnnbeaaDecRef3
import Derived.BigQuiet
set_option linter.unusedSimpArgs false
set_option linter.unusedVariables false
namespace Go.Proofs.Ytcbbnmodjnnbeaa
open Go.RowKit
attribute [local go_sem] World.ext_ext

def decP (s : List UInt8) : Rec × Int :=
  if s.length < 4 then (Rec.zero, 10)
  else if s.drop (s.length - 4) ≠ be 4 (By.sum (s.take (s.length - 4))) then (Rec.zero, 10)
  else if (recLd (s.take (s.length - 4)) false).2 = ([], false) ∧ (recLd (s.take (s.length - 4)) false).1.may = true then ((recLd (s.take (s.length - 4)) false).1, 0)
  else (Rec.zero, 10)

set_option maxRecDepth 100000 in
set_option maxHeartbeats 1000000 in
theorem decode_unsealed (s : ByteArray) (w : World) (m : Nat) (hm : s.size = m + 4) (hlen : m ≤ 281474976710656) (hx : s.data.toList.drop m ≠ be 4 (By.sum (s.data.toList.take m))) :
    Calls Try.prog 16 #[.string s] w fun e w' => ∃ q er, (q, er) = decP s.data.toList ∧ e = .returned (.tuple #[(.agg #[.int .i64 q.kind, .int .i64 q.gen, .int .i64 q.index, .int .i64 q.term, .int .i64 q.vote, .int .i64 q.many, .int .i64 q.cmd.kind, .string q.cmd.key, .string q.cmd.val, .string q.cmd.old, .int .i64 q.cmd.rev, .int .i64 q.cmd.ses, .int .i64 q.cmd.seq, .string q.data]), .int .i64 er]) ∧ Below w.heap.size w w' := by
  have hn : s.data.toList.length - 4 = m := by rw [len_data]; omega
  have hn4 : ¬ s.data.toList.length < 4 := by rw [len_data]; omega
  have hD : Hid (decP s.data.toList = (Rec.zero, 10)) := by show _ = _; unfold decP; rw [if_neg hn4, hn, if_pos hx]
  have hX : (!(B (s.data.toList.drop m)).toList == (B (be 4 (By.sum (s.data.toList.take m)))).toList) = true := by
    rw [toList_cmp]
    cases hc : (B (s.data.toList.drop m) == B (be 4 (By.sum (s.data.toList.take m))))
    · rfl
    · exact absurd (B_inj ((beq_bytes _ _).1 hc)) hx
  clear hx
  have e1 : s.extract 0 m = B (s.data.toList.take m) := bytes_ext (by rw [extract_list]; simp [B_list])
  have e2 : s.extract m (m + 4) = B (s.data.toList.drop m) := bytes_ext (by rw [extract_list, B_list]; exact List.take_of_length_le (by simp; omega))
  have hd : decide ((m : Int) < 0) = false := decide_eq_false (by omega)
  have hl : (s.data.toList.take m).length ≤ maxLen := by simp; unfold maxLen; omega
  have hlb : (B (s.data.toList.take m)).size ≤ 281474976710656 := by rw [B_size]; simp; omega
  generalize s.data.toList.take m = body at *
  generalize s.data.toList.drop m = sl at *
  have hlb' : Hid ((B body).size ≤ 281474976710656) := hlb
  have hl' : Hid (body.length ≤ maxLen) := hl
  clear hlb hl hn hn4
  go_enter Try.func16, Try.ntmps16
  go_wp2_with fail
  refine wp_region_grows (by kernel_rfl) (by kernel_rfl) ?_
  repeat (first | quiet_step (fail) | (refine wpQuiet_step (fun K hK => ?_); go_simp; simp only [↓IntWalk.iteOmega]; go_simp; refine hK _ ?_; clear hK K))
  quiet_step (exact Calls.grows (sealOf _ _ hl'.out))
  repeat (first | quiet_step (fail) | (refine wpQuiet_step (fun K hK => ?_); go_simp; simp only [↓IntWalk.iteOmega]; go_simp; refine hK _ ?_; clear hK K))
  refine wpQuiet_nil ?_
  rintro _ ⟨x, rfl⟩
  go_wp2_with fail
  exact bodyPost_ret (v := .tuple #[.agg #[.int .i64 0, .int .i64 0, .int .i64 0, .int .i64 0, .int .i64 0, .int .i64 0, .int .i64 0, .string ⟨#[]⟩, .string ⟨#[]⟩, .string ⟨#[]⟩, .int .i64 0, .int .i64 0, .int .i64 0, .string ⟨#[]⟩], .int .i64 10]) (by simp [results, Try.results16, go_sem]) rfl ⟨Rec.zero, 10, hD.out.symm, rfl, (by repeat (first | exact Below.refl _ _ | assumption | refine Gr.ext ?_ _ | refine Gr.alloc ?_ _ | refine Gr.drew ?_ | (refine Gr.set ?_ (by first | (simp; done) | (simp; omega)) _)))⟩
end Go.Proofs.Ytcbbnmodjnnbeaa
/- The program's Decode of what is too short. -/
set_option linter.unusedSimpArgs false
set_option linter.unusedVariables false
namespace Go.Proofs.Ytcbbnmodjnnbeaa
open Go.RowKit
attribute [local go_sem] World.ext_ext
@[go_sem] theorem drewN_setCell (w : World) (n : Nat) (a : Addr) (v : Value) : (w.drewN n).setCell a v = (w.setCell a v).drewN n := rfl

set_option maxRecDepth 100000 in
set_option maxHeartbeats 6000000 in
theorem decode_short (s : ByteArray) (w : World) (h : s.size < 4) :
    Calls Try.prog 16 #[.string s] w fun e w' => ∃ q er, (q, er) = decP s.data.toList ∧ e = .returned (.tuple #[(.agg #[.int .i64 q.kind, .int .i64 q.gen, .int .i64 q.index, .int .i64 q.term, .int .i64 q.vote, .int .i64 q.many, .int .i64 q.cmd.kind, .string q.cmd.key, .string q.cmd.val, .string q.cmd.old, .int .i64 q.cmd.rev, .int .i64 q.cmd.ses, .int .i64 q.cmd.seq, .string q.data]), .int .i64 er]) ∧ Below w.heap.size w w' := by
  have hD : Hid (decP s.data.toList = (Rec.zero, 10)) := by show _ = _; unfold decP; rw [if_pos (by rw [len_data]; exact h)]
  have h4 : s.size = 0 ∨ s.size = 1 ∨ s.size = 2 ∨ s.size = 3 := by omega
  clear h
  rcases h4 with h | h | h | h
  all_goals
    go_enter Try.func16, Try.ntmps16
    go_wp2_with fail
    go_quiet (fail)
    go_wp2_with fail
    exact bodyPost_ret (v := .tuple #[.agg #[.int .i64 0, .int .i64 0, .int .i64 0, .int .i64 0, .int .i64 0, .int .i64 0, .int .i64 0, .string ⟨#[]⟩, .string ⟨#[]⟩, .string ⟨#[]⟩, .int .i64 0, .int .i64 0, .int .i64 0, .string ⟨#[]⟩], .int .i64 10]) (by simp [results, Try.results16, go_sem]) rfl ⟨Rec.zero, 10, hD.out.symm, rfl, ⟨rfl, rfl, rfl, by simp [World.drewN], fun k hk => Below.heap_alloc _ _ _ hk⟩⟩
end Go.Proofs.Ytcbbnmodjnnbeaa
/- The program's Decode of what is sealed. -/
set_option linter.unusedSimpArgs false
set_option linter.unusedVariables false
namespace Go.Proofs.Ytcbbnmodjnnbeaa
open Go.RowKit
attribute [local go_sem] World.ext_ext

theorem Gr.put {w w' : World} (h : Below w.heap.size w w') {p : Nat} (hp : w.heap.size ≤ p) (l : List UInt8) (b : Bool) : Below w.heap.size w (w'.putRd p l b) := (h.setCell hp _).setCell hp _
theorem decEnd1 {r : Rec} {t : List UInt8 × Bool} {X : Rec × List UInt8 × Bool} (HR : Hid ((r, t) = X)) (hd : (!t.2 && t.1.isEmpty) = false) : (Rec.zero, (10 : Int)) = if X.2 = ([], false) ∧ X.1.may = true then (X.1, 0) else (Rec.zero, 10) := by
  rw [← HR.out, if_neg]
  rintro ⟨h1, _⟩
  simp only at h1
  subst h1
  simp at hd
theorem decEnd2 {r : Rec} {t : List UInt8 × Bool} {X : Rec × List UInt8 × Bool} (HR : Hid ((r, t) = X)) (hm : r.may = false) : (Rec.zero, (10 : Int)) = if X.2 = ([], false) ∧ X.1.may = true then (X.1, 0) else (Rec.zero, 10) := by
  rw [← HR.out, if_neg]
  rintro ⟨_, h1⟩
  simp [hm] at h1
theorem decEnd3 {r : Rec} {t : List UInt8 × Bool} {X : Rec × List UInt8 × Bool} (HR : Hid ((r, t) = X)) (hd : (!t.2 && t.1.isEmpty) = true) (hm : r.may = true) : (r, (0 : Int)) = if X.2 = ([], false) ∧ X.1.may = true then (X.1, 0) else (Rec.zero, 10) := by
  rw [← HR.out, if_pos]
  refine ⟨?_, hm⟩
  obtain ⟨a, b⟩ := t
  cases b
  · cases a
    · rfl
    · simp at hd
  · simp at hd

set_option maxRecDepth 100000 in
set_option maxHeartbeats 1000000 in
theorem decode_sealed (s : ByteArray) (w : World) (m : Nat) (hm : s.size = m + 4) (hlen : m ≤ 281474976710656) (hx : s.data.toList.drop m = be 4 (By.sum (s.data.toList.take m))) :
    Calls Try.prog 16 #[.string s] w fun e w' => ∃ q er, (q, er) = decP s.data.toList ∧ e = .returned (.tuple #[(.agg #[.int .i64 q.kind, .int .i64 q.gen, .int .i64 q.index, .int .i64 q.term, .int .i64 q.vote, .int .i64 q.many, .int .i64 q.cmd.kind, .string q.cmd.key, .string q.cmd.val, .string q.cmd.old, .int .i64 q.cmd.rev, .int .i64 q.cmd.ses, .int .i64 q.cmd.seq, .string q.data]), .int .i64 er]) ∧ Below w.heap.size w w' := by
  have hn : s.data.toList.length - 4 = m := by rw [len_data]; omega
  have hn4 : ¬ s.data.toList.length < 4 := by rw [len_data]; omega
  have hD : Hid (decP s.data.toList = if (recLd (s.data.toList.take m) false).2 = ([], false) ∧ (recLd (s.data.toList.take m) false).1.may = true then ((recLd (s.data.toList.take m) false).1, 0) else (Rec.zero, 10)) := by
    show _ = _; unfold decP; rw [if_neg hn4, hn, if_neg (fun h => h hx)]
  have hX : (!(B (s.data.toList.drop m)).toList == (B (be 4 (By.sum (s.data.toList.take m)))).toList) = false := by
    rw [toList_cmp, hx, (beq_bytes _ _).2 rfl]; rfl
  clear hx
  have e1 : s.extract 0 m = B (s.data.toList.take m) := bytes_ext (by rw [extract_list]; simp [B_list])
  have e2 : s.extract m (m + 4) = B (s.data.toList.drop m) := bytes_ext (by rw [extract_list, B_list]; exact List.take_of_length_le (by simp; omega))
  have hd : decide ((m : Int) < 0) = false := decide_eq_false (by omega)
  have hl : (s.data.toList.take m).length ≤ maxLen := by simp; unfold maxLen; omega
  have hlb : (B (s.data.toList.take m)).size ≤ 281474976710656 := by rw [B_size]; simp; omega
  generalize s.data.toList.take m = body at *
  generalize s.data.toList.drop m = sl at *
  have hlb' : Hid ((B body).size ≤ 281474976710656) := hlb
  have hl' : Hid (body.length ≤ maxLen) := hl
  clear hlb hl hn hn4
  go_enter Try.func16, Try.ntmps16
  go_wp2_with fail
  refine wp_region_grows (by kernel_rfl) (by kernel_rfl) ?_
  repeat (first | quiet_step (fail) | (refine wpQuiet_step (fun K hK => ?_); go_simp; simp only [↓IntWalk.iteOmega]; go_simp; refine hK _ ?_; clear hK K))
  quiet_step (exact Calls.grows (sealOf _ _ hl'.out))
  repeat (first | quiet_step (fail) | (refine wpQuiet_step (fun K hK => ?_); go_simp; simp only [↓IntWalk.iteOmega]; go_simp; refine hK _ ?_; clear hK K))
  refine wpQuiet_nil ?_
  rintro _ ⟨x, rfl⟩
  go_wp2_with (first | (go_at_call 54; refine (stringsClone _ _ hlb'.out).mono ?_; rintro e w1 ⟨rfl, hb1⟩; obtain ⟨x1, rfl⟩ := Below.ext hb1; clear hb1) | (go_at_call 53; refine (newReader _ _).mono ?_; rintro e w2 ⟨rfl, rfl⟩))
  have h := rdNew ((w.alloc (.cells #[.int .i64 0, .int .i64 0, .int .i64 0, .int .i64 0, .int .i64 0, .int .i64 0, .int .i64 0, .string ⟨#[]⟩, .string ⟨#[]⟩, .string ⟨#[]⟩, .int .i64 0, .int .i64 0, .int .i64 0, .string ⟨#[]⟩] 25)).ext ⟨x.new ++ x1.new, x1.at_⟩) (w.heap.size + 1 + (x.new.size + x1.new.size)) body false (by simp [World.ext_size])
  have n1 : ¬ (w.heap.size = w.heap.size + 1 + (x.new.size + x1.new.size)) := by omega
  refine (readRecord _ body false _ h hl'.out).mono ?_
  rintro e w3 ⟨r, t, HR, hlt, rfl, x3, rfl⟩
  have n2 : ¬ (w.heap.size + 1 + (x.new.size + x1.new.size) + 1 + x3.new.size = w.heap.size + 1 + (x.new.size + x1.new.size)) := by omega
  cases hdone : (!t.2 && t.1.isEmpty)
  · go_wp2_with (go_at_call 56; refine (readerDone _ t.1 t.2 _ (by repeat (first | with_reducible exact h | with_reducible exact RdAt.ok h | with_reducible refine RdAt.ext ?_ _ | with_reducible refine RdOk.at ?_ _ _ | with_reducible refine RdAt.alloc ?_ _ | with_reducible refine RdOk.ext ?_ _ | with_reducible refine RdOk.put ?_ _ _ | with_reducible refine RdOk.alloc ?_ _))).mono ?_; rintro e w4 ⟨rfl, rfl⟩)
    exact bodyPost_ret (v := .tuple #[.agg #[.int .i64 0, .int .i64 0, .int .i64 0, .int .i64 0, .int .i64 0, .int .i64 0, .int .i64 0, .string ⟨#[]⟩, .string ⟨#[]⟩, .string ⟨#[]⟩, .int .i64 0, .int .i64 0, .int .i64 0, .string ⟨#[]⟩], .int .i64 10]) (by simp [results, Try.results16, go_sem, n1, n2]) rfl ⟨Rec.zero, 10, by rw [hD.out]; exact decEnd1 HR hdone, rfl, (by repeat (first | with_reducible exact Below.refl _ _ | with_reducible refine Gr.ext ?_ _ | with_reducible refine Gr.alloc ?_ _ | (with_reducible refine Gr.put ?_ (by omega) _ _)))⟩
  · cases hmay : r.may
    · go_wp2_with (first | (go_at_call 56; refine (readerDone _ t.1 t.2 _ (by repeat (first | with_reducible exact h | with_reducible exact RdAt.ok h | with_reducible refine RdAt.ext ?_ _ | with_reducible refine RdOk.at ?_ _ _ | with_reducible refine RdAt.alloc ?_ _ | with_reducible refine RdOk.ext ?_ _ | with_reducible refine RdOk.put ?_ _ _ | with_reducible refine RdOk.alloc ?_ _))).mono ?_; rintro e w4 ⟨rfl, rfl⟩) | (go_at_call 47; refine (codecMayBe r _).mono ?_; rintro e w5 ⟨rfl, hb5⟩; obtain ⟨x5, rfl⟩ := Below.ext hb5; clear hb5))
      exact bodyPost_ret (v := .tuple #[.agg #[.int .i64 0, .int .i64 0, .int .i64 0, .int .i64 0, .int .i64 0, .int .i64 0, .int .i64 0, .string ⟨#[]⟩, .string ⟨#[]⟩, .string ⟨#[]⟩, .int .i64 0, .int .i64 0, .int .i64 0, .string ⟨#[]⟩], .int .i64 10]) (by simp [results, Try.results16, go_sem, n1, n2]) rfl ⟨Rec.zero, 10, by rw [hD.out]; exact decEnd2 HR hmay, rfl, (by repeat (first | with_reducible exact Below.refl _ _ | with_reducible refine Gr.ext ?_ _ | with_reducible refine Gr.alloc ?_ _ | (with_reducible refine Gr.put ?_ (by omega) _ _)))⟩
    · go_wp2_with (first | (go_at_call 56; refine (readerDone _ t.1 t.2 _ (by repeat (first | with_reducible exact h | with_reducible exact RdAt.ok h | with_reducible refine RdAt.ext ?_ _ | with_reducible refine RdOk.at ?_ _ _ | with_reducible refine RdAt.alloc ?_ _ | with_reducible refine RdOk.ext ?_ _ | with_reducible refine RdOk.put ?_ _ _ | with_reducible refine RdOk.alloc ?_ _))).mono ?_; rintro e w4 ⟨rfl, rfl⟩) | (go_at_call 47; refine (codecMayBe r _).mono ?_; rintro e w5 ⟨rfl, hb5⟩; obtain ⟨x5, rfl⟩ := Below.ext hb5; clear hb5))
      exact bodyPost_ret (v := .tuple #[(.agg #[.int .i64 r.kind, .int .i64 r.gen, .int .i64 r.index, .int .i64 r.term, .int .i64 r.vote, .int .i64 r.many, .int .i64 r.cmd.kind, .string r.cmd.key, .string r.cmd.val, .string r.cmd.old, .int .i64 r.cmd.rev, .int .i64 r.cmd.ses, .int .i64 r.cmd.seq, .string r.data]), .int .i64 0]) (by simp [results, Try.results16, go_sem, n1, n2]) rfl ⟨r, 0, by rw [hD.out]; exact decEnd3 HR hdone hmay, rfl, (by repeat (first | with_reducible exact Below.refl _ _ | with_reducible refine Gr.ext ?_ _ | with_reducible refine Gr.alloc ?_ _ | (with_reducible refine Gr.put ?_ (by omega) _ _)))⟩
end Go.Proofs.Ytcbbnmodjnnbeaa
