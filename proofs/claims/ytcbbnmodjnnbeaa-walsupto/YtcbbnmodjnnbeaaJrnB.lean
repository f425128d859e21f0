/- The document's disk: Crash. -/
import Derived.Test.YtcbbnmodjnnbeaaJrnA
import Derived.Test.YtcbbnmodjnnbeaaHeldM
set_option linter.unusedSimpArgs false
set_option linter.unusedVariables false
namespace Go.Proofs.Ytcbbnmodjnnbeaa
open Go.RowKit

theorem rd_set0 {w : World} {q : Nat} {T : TypeId} {a0 a1 a2 a3 a4 a5 a6 a7 : Value} (h : w.heap[q]? = some (.cells #[a0, a1, a2, a3, a4, a5, a6, a7] T)) (x y : Value) : ((w.setCell ⟨q, 0, none⟩ x).setCell ⟨q, 2, none⟩ y).drew.heap[q]? = some (.cells #[x, a1, y, a3, a4, a5, a6, a7] T) := by
  refine (cells_set (cells_set h _) _).trans ?_
  simp only [List.setIfInBounds_toArray, List.set_cons_succ, List.set_cons_zero]
theorem rd_set1 {w : World} {q : Nat} {T : TypeId} {a0 a1 a2 a3 a4 a5 a6 a7 : Value} (h : w.heap[q]? = some (.cells #[a0, a1, a2, a3, a4, a5, a6, a7] T)) (x y : Value) : ((w.setCell ⟨q, 1, none⟩ x).setCell ⟨q, 3, none⟩ y).drew.heap[q]? = some (.cells #[a0, x, a2, y, a4, a5, a6, a7] T) := by
  refine (cells_set (cells_set h _) _).trans ?_
  simp only [List.setIfInBounds_toArray, List.set_cons_succ, List.set_cons_zero]
set_option maxRecDepth 100000 in
set_option maxHeartbeats 8000000 in
theorem refCrash (w : World) (q : Nat) (D : Dk) (kp : Int) (U M : Nat) (h : RD w q D kp U M) (hl0 : D.b0.length ≤ 1000000000000) (hl1 : D.b1.length ≤ 1000000000000) (keep : Int) (hk : -9223372036854775808 ≤ keep ∧ keep < 9223372036854775808) :
    Calls Try.prog 86 #[.pointer (some ⟨q, 0, none⟩), .int .i64 keep] w fun e w' => e = .returned (.tuple #[]) ∧ RD w' q (D.crash keep) kp 0 M ∧ w.turned w' (fun k => k = q) := by
  have H : Hid (RD w q D kp U M) := h
  have hblk := h.blk
  have hf0 := h.fit.f0
  have hf1 := h.fit.f1
  have hq := h.lt
  clear h
  obtain ⟨b0, hb0⟩ : ∃ b, b = D.b0 := ⟨_, rfl⟩
  obtain ⟨b1, hb1⟩ : ∃ b, b = D.b1 := ⟨_, rfl⟩
  obtain ⟨l0, hl0'⟩ : ∃ b, b = D.l0 := ⟨_, rfl⟩
  obtain ⟨l1, hl1'⟩ : ∃ b, b = D.l1 := ⟨_, rfl⟩
  obtain ⟨due, hdue⟩ : ∃ b, b = D.due := ⟨_, rfl⟩
  rw [← hb0, ← hb1, ← hl0', ← hl1', ← hdue] at hblk
  rw [← hb0] at hl0 hf0
  rw [← hb1] at hl1 hf1
  rw [← hl0'] at hf0
  rw [← hl1'] at hf1
  obtain ⟨s0, hs0⟩ : ∃ s, s = stayN keep b0.length l0 := ⟨_, rfl⟩
  obtain ⟨s1, hs1⟩ : ∃ s, s = stayN keep b1.length l1 := ⟨_, rfl⟩
  have HBLK : Hid (w.heap[q]? = some (.cells #[.string (B b0), .string (B b1), .int .i64 l0, .int .i64 l1, .int .i64 due, .int .i64 kp, .int .i64 U, .int .i64 M] 222)) := hblk
  have HEQ : Hid (b0 = D.b0 ∧ b1 = D.b1 ∧ l0 = D.l0 ∧ l1 = D.l1) := ⟨hb0, hb1, hl0', hl1'⟩
  have HFT : Hid (l0 ≤ b0.length ∧ l1 ≤ b1.length ∧ b0.length ≤ 1000000000000 ∧ b1.length ≤ 1000000000000) := ⟨hf0, hf1, hl0, hl1⟩
  have HK : Hid (-9223372036854775808 ≤ keep ∧ keep < 9223372036854775808) := hk
  have HS0 : Hid (s0 = stayN keep b0.length l0) := hs0
  have HS1 : Hid (s1 = stayN keep b1.length l1) := hs1
  clear hblk hb0 hb1 hl0' hl1' hdue hs0 hs1 hl0 hl1 hf0 hf1 hk
  go_enter Try.func86, Try.ntmps86
  go_wp2_with fail
  go_loopw [4] (fun kv wr => w.turned wr (fun k => k = q) ∧ ((kv = .int .i64 0 ∧ Hid (wr.heap[q]? = some (.cells #[.string (B b0), .string (B b1), .int .i64 l0, .int .i64 l1, .int .i64 due, .int .i64 kp, .int .i64 U, .int .i64 M] 222))) ∨ (kv = .int .i64 1 ∧ Hid (wr.heap[q]? = some (.cells #[.string (B (b0.take s0)), .string (B b1), .int .i64 s0, .int .i64 l1, .int .i64 due, .int .i64 kp, .int .i64 U, .int .i64 M] 222))) ∨ (kv = .int .i64 2 ∧ Hid (wr.heap[q]? = some (.cells #[.string (B (b0.take s0)), .string (B (b1.take s1)), .int .i64 s0, .int .i64 s1, .int .i64 due, .int .i64 kp, .int .i64 U, .int .i64 M] 222))))) (fun kv _ => 2 - (intOf kv).toNat)
  case atStart => exact ⟨World.turned.refl _ _, .inl ⟨rfl, HBLK⟩⟩
  case round =>
    obtain ⟨ht, hcase⟩ := hrel
    rcases hcase with ⟨rfl, HW⟩ | ⟨rfl, HW⟩ | ⟨rfl, HW⟩
    · obtain ⟨q0, q1, q2, q3, q4, q5, q6, q7, qf⟩ := rd_cells HW.out
      have hqr : q < wr.heap.size := (Array.getElem?_eq_some_iff.1 HW.out).1
      obtain ⟨d, hd⟩ : ∃ d : Nat, d = b0.length - l0 := ⟨_, rfl⟩
      obtain ⟨h1, h2, h3, h4⟩ := HFT.out
      obtain ⟨h5, h6⟩ := HK.out
      have w1 : IntKind.i64.wrap ((b0.length : Int) - (l0 : Int)) = (d : Int) := by rw [wrap_id _ (by omega) (by omega)]; omega
      have HSL : Hid (s0 ≤ b0.length) := by show _ ≤ _; rw [HS0.out]; exact stayN_le (by omega)
      have HT : Hid (w.turned wr (fun k => k = q)) := ht
      by_cases hlt : keep < (d : Int)
      · have e1 : decide (keep < (d : Int)) = true := by simp [hlt]
        by_cases hpos : 0 < keep
        · obtain ⟨s, hs⟩ : ∃ s, s = s0 := ⟨_, rfl⟩
          have hsv : s = l0 + keep.toNat := by rw [hs, HS0.out]; unfold stayN; omega
          have w2 : IntKind.i64.wrap ((l0 : Int) + keep) = (s : Int) := by rw [wrap_id _ (by omega) (by omega)]; omega
          have hsl : s ≤ b0.length := by rw [hs]; exact HSL.out
          have HSS : Hid (s = s0) := hs
          clear hs hsv hd h1 h2 h3 h4 h5 h6 ht
          go_wp2_with fail
          refine wp_region_until (fun w' => w'.cell? ⟨q, 0, none⟩ = some (.string (B b0))) 13 (by kernel_rfl) ?_
          have HS0 : ((fun w' => w'.cell? ⟨q, 0, none⟩ = some (.string (B b0))) : World → Prop) wr.drew := q0
          refine wpUntil.takeC (i := 0) (v := (.pointer (some ⟨q, 0, none⟩))) [10, 11, 12, 13] rfl (by kernel_rfl) (by kernel_rfl) (by kernel_rfl) (by kernel_rfl) (fun _ _ _ h => h) (Or.inl ⟨by rfl, fun w hSw => ?hy0⟩) HS0 ?_
          case hy0 => (try dsimp only at hSw); go_simp
          simp only [Act.put, List.getElem_toArray, List.getElem_cons_zero, List.getElem_cons_succ, List.setIfInBounds_toArray, List.set_cons_zero, List.set_cons_succ]
          refine wpUntil.takeC (i := 1) (v := (.int .i64 0)) [12, 13] rfl (by kernel_rfl) (by kernel_rfl) (by kernel_rfl) (by kernel_rfl) (fun _ _ _ h => h) (Or.inl ⟨by rfl, fun w hSw => ?hy1⟩) HS0 ?_
          case hy1 => (try dsimp only at hSw); go_simp
          simp only [Act.put, List.getElem_toArray, List.getElem_cons_zero, List.getElem_cons_succ, List.setIfInBounds_toArray, List.set_cons_zero, List.set_cons_succ]
          refine wpUntil.takeC (i := 2) (v := (.pointer (some ⟨q, 0, none⟩))) [4, 5, 6, 7, 9, 13] rfl (by kernel_rfl) (by kernel_rfl) (by kernel_rfl) (by kernel_rfl) (fun _ _ _ h => h) (Or.inl ⟨by rfl, fun w hSw => ?hy2⟩) HS0 ?_
          case hy2 => (try dsimp only at hSw); go_simp
          simp only [Act.put, List.getElem_toArray, List.getElem_cons_zero, List.getElem_cons_succ, List.setIfInBounds_toArray, List.set_cons_zero, List.set_cons_succ]
          refine wpUntil.takeC (i := 3) (v := (.int .i64 0)) [6, 7, 9, 13] rfl (by kernel_rfl) (by kernel_rfl) (by kernel_rfl) (by kernel_rfl) (fun _ _ _ h => h) (Or.inl ⟨by rfl, fun w hSw => ?hy3⟩) HS0 ?_
          case hy3 => (try dsimp only at hSw); go_simp
          simp only [Act.put, List.getElem_toArray, List.getElem_cons_zero, List.getElem_cons_succ, List.setIfInBounds_toArray, List.set_cons_zero, List.set_cons_succ]
          refine wpUntil.takeC (i := 4) (v := (.pointer (some ⟨q, 0, none⟩))) [5, 6, 7, 9, 13] rfl (by kernel_rfl) (by kernel_rfl) (by kernel_rfl) (by kernel_rfl) (fun _ _ _ h => h) (Or.inl ⟨by rfl, fun w hSw => ?hy4⟩) HS0 ?_
          case hy4 => (try dsimp only at hSw); go_simp
          simp only [Act.put, List.getElem_toArray, List.getElem_cons_zero, List.getElem_cons_succ, List.setIfInBounds_toArray, List.set_cons_zero, List.set_cons_succ]
          refine wpUntil.takeC (i := 5) (v := (.pointer (some ⟨q, 0, none⟩))) [6, 7, 9, 13] rfl (by kernel_rfl) (by kernel_rfl) (by kernel_rfl) (by kernel_rfl) (fun _ _ _ h => h) (Or.inl ⟨by rfl, fun w hSw => ?hy5⟩) HS0 ?_
          case hy5 => (try dsimp only at hSw); go_simp
          simp only [Act.put, List.getElem_toArray, List.getElem_cons_zero, List.getElem_cons_succ, List.setIfInBounds_toArray, List.set_cons_zero, List.set_cons_succ]
          refine wpUntil.takeC (i := 6) (v := (.pointer (some ⟨q, 0, none⟩))) [7, 9, 13] rfl (by kernel_rfl) (by kernel_rfl) (by kernel_rfl) (by kernel_rfl) (fun _ _ _ h => h) (Or.inl ⟨by rfl, fun w hSw => ?hy6⟩) HS0 ?_
          case hy6 => (try dsimp only at hSw); go_simp
          simp only [Act.put, List.getElem_toArray, List.getElem_cons_zero, List.getElem_cons_succ, List.setIfInBounds_toArray, List.set_cons_zero, List.set_cons_succ]
          refine wpUntil.takeC (i := 7) (v := (.string (B b0))) [9, 13] rfl (by kernel_rfl) (by kernel_rfl) (by kernel_rfl) (by kernel_rfl) (fun _ _ _ h => h) (Or.inl ⟨by rfl, fun w hSw => ?hy7⟩) HS0 ?_
          case hy7 => (try dsimp only at hSw); go_simp
          simp only [Act.put, List.getElem_toArray, List.getElem_cons_zero, List.getElem_cons_succ, List.setIfInBounds_toArray, List.set_cons_zero, List.set_cons_succ]
          refine wpUntil.takeC (i := 8) (v := (.int .i64 s)) [9, 13] rfl (by kernel_rfl) (by kernel_rfl) (by kernel_rfl) (by kernel_rfl) (fun _ _ _ h => h) (Or.inl ⟨by rfl, fun w hSw => ?hy8⟩) HS0 ?_
          case hy8 => (try dsimp only at hSw); go_simp
          simp only [Act.put, List.getElem_toArray, List.getElem_cons_zero, List.getElem_cons_succ, List.setIfInBounds_toArray, List.set_cons_zero, List.set_cons_succ]
          refine wpUntil.takeC (i := 9) (v := (.string (B (b0.take s)))) [13] rfl (by kernel_rfl) (by kernel_rfl) (by kernel_rfl) (by kernel_rfl) (fun _ _ _ h => h) (Or.inl ⟨by rfl, fun w hSw => ?hy9⟩) HS0 ?_
          case hy9 => (try dsimp only at hSw); go_simp
          simp only [Act.put, List.getElem_toArray, List.getElem_cons_zero, List.getElem_cons_succ, List.setIfInBounds_toArray, List.set_cons_zero, List.set_cons_succ]
          refine wpUntil.takeC (i := 10) (v := (.pointer (some ⟨q, 0, none⟩))) [11, 12, 13] rfl (by kernel_rfl) (by kernel_rfl) (by kernel_rfl) (by kernel_rfl) (fun _ _ _ h => h) (Or.inl ⟨by rfl, fun w hSw => ?hy10⟩) HS0 ?_
          case hy10 => (try dsimp only at hSw); go_simp
          simp only [Act.put, List.getElem_toArray, List.getElem_cons_zero, List.getElem_cons_succ, List.setIfInBounds_toArray, List.set_cons_zero, List.set_cons_succ]
          refine wpUntil.takeC (i := 11) (v := (.pointer (some ⟨q, 0, none⟩))) [12, 13] rfl (by kernel_rfl) (by kernel_rfl) (by kernel_rfl) (by kernel_rfl) (fun _ _ _ h => h) (Or.inl ⟨by rfl, fun w hSw => ?hy11⟩) HS0 ?_
          case hy11 => (try dsimp only at hSw); go_simp
          simp only [Act.put, List.getElem_toArray, List.getElem_cons_zero, List.getElem_cons_succ, List.setIfInBounds_toArray, List.set_cons_zero, List.set_cons_succ]
          refine wpUntil.takeC (i := 12) (v := (.pointer (some ⟨q, 0, none⟩))) [13] rfl (by kernel_rfl) (by kernel_rfl) (by kernel_rfl) (by kernel_rfl) (fun _ _ _ h => h) (Or.inl ⟨by rfl, fun w hSw => ?hy12⟩) HS0 ?_
          case hy12 => (try dsimp only at hSw); go_simp
          simp only [Act.put, List.getElem_toArray, List.getElem_cons_zero, List.getElem_cons_succ, List.setIfInBounds_toArray, List.set_cons_zero, List.set_cons_succ]
          refine wpUntil.only (i := 13) rfl (by kernel_rfl) (by rfl) ?_
          simp only [Act.put, List.getElem_toArray, List.getElem_cons_zero, List.getElem_cons_succ, List.setIfInBounds_toArray, List.set_cons_zero, List.set_cons_succ]
          go_simp
          refine ⟨by kernel_rfl, ?_⟩
          go_wp2_with fail
          rw [HSS.out]
          exact ⟨⟨(turned_set (S := fun k => k = q) (turned_set (S := fun k => k = q) HT.out rfl _) rfl _).drew, .inr (.inl ⟨rfl, rd_set0 HW.out _ _⟩)⟩, by simp [intOf]⟩
        · obtain ⟨s, hs⟩ : ∃ s, s = s0 := ⟨_, rfl⟩
          have hsv : l0 = s0 := by rw [HS0.out]; unfold stayN; omega
          have e2 : decide (0 < keep) = false := by simp; omega
          have hsl : l0 ≤ b0.length := by omega
          have HSS : Hid (l0 = s0) := hsv
          clear hs hsv hd h1 h2 h3 h4 h5 h6 ht
          go_wp2_with fail
          refine wp_region_until (fun w' => w'.cell? ⟨q, 0, none⟩ = some (.string (B b0))) 13 (by kernel_rfl) ?_
          have HS0 : ((fun w' => w'.cell? ⟨q, 0, none⟩ = some (.string (B b0))) : World → Prop) wr.drew := q0
          refine wpUntil.takeC (i := 0) (v := (.pointer (some ⟨q, 0, none⟩))) [10, 11, 12, 13] rfl (by kernel_rfl) (by kernel_rfl) (by kernel_rfl) (by kernel_rfl) (fun _ _ _ h => h) (Or.inl ⟨by rfl, fun w hSw => ?hy0⟩) HS0 ?_
          case hy0 => (try dsimp only at hSw); go_simp
          simp only [Act.put, List.getElem_toArray, List.getElem_cons_zero, List.getElem_cons_succ, List.setIfInBounds_toArray, List.set_cons_zero, List.set_cons_succ]
          refine wpUntil.takeC (i := 1) (v := (.int .i64 0)) [12, 13] rfl (by kernel_rfl) (by kernel_rfl) (by kernel_rfl) (by kernel_rfl) (fun _ _ _ h => h) (Or.inl ⟨by rfl, fun w hSw => ?hy1⟩) HS0 ?_
          case hy1 => (try dsimp only at hSw); go_simp
          simp only [Act.put, List.getElem_toArray, List.getElem_cons_zero, List.getElem_cons_succ, List.setIfInBounds_toArray, List.set_cons_zero, List.set_cons_succ]
          refine wpUntil.takeC (i := 2) (v := (.pointer (some ⟨q, 0, none⟩))) [4, 5, 6, 7, 9, 13] rfl (by kernel_rfl) (by kernel_rfl) (by kernel_rfl) (by kernel_rfl) (fun _ _ _ h => h) (Or.inl ⟨by rfl, fun w hSw => ?hy2⟩) HS0 ?_
          case hy2 => (try dsimp only at hSw); go_simp
          simp only [Act.put, List.getElem_toArray, List.getElem_cons_zero, List.getElem_cons_succ, List.setIfInBounds_toArray, List.set_cons_zero, List.set_cons_succ]
          refine wpUntil.takeC (i := 3) (v := (.int .i64 0)) [6, 7, 9, 13] rfl (by kernel_rfl) (by kernel_rfl) (by kernel_rfl) (by kernel_rfl) (fun _ _ _ h => h) (Or.inl ⟨by rfl, fun w hSw => ?hy3⟩) HS0 ?_
          case hy3 => (try dsimp only at hSw); go_simp
          simp only [Act.put, List.getElem_toArray, List.getElem_cons_zero, List.getElem_cons_succ, List.setIfInBounds_toArray, List.set_cons_zero, List.set_cons_succ]
          refine wpUntil.takeC (i := 4) (v := (.pointer (some ⟨q, 0, none⟩))) [5, 6, 7, 9, 13] rfl (by kernel_rfl) (by kernel_rfl) (by kernel_rfl) (by kernel_rfl) (fun _ _ _ h => h) (Or.inl ⟨by rfl, fun w hSw => ?hy4⟩) HS0 ?_
          case hy4 => (try dsimp only at hSw); go_simp
          simp only [Act.put, List.getElem_toArray, List.getElem_cons_zero, List.getElem_cons_succ, List.setIfInBounds_toArray, List.set_cons_zero, List.set_cons_succ]
          refine wpUntil.takeC (i := 5) (v := (.pointer (some ⟨q, 0, none⟩))) [6, 7, 9, 13] rfl (by kernel_rfl) (by kernel_rfl) (by kernel_rfl) (by kernel_rfl) (fun _ _ _ h => h) (Or.inl ⟨by rfl, fun w hSw => ?hy5⟩) HS0 ?_
          case hy5 => (try dsimp only at hSw); go_simp
          simp only [Act.put, List.getElem_toArray, List.getElem_cons_zero, List.getElem_cons_succ, List.setIfInBounds_toArray, List.set_cons_zero, List.set_cons_succ]
          refine wpUntil.takeC (i := 6) (v := (.pointer (some ⟨q, 0, none⟩))) [7, 9, 13] rfl (by kernel_rfl) (by kernel_rfl) (by kernel_rfl) (by kernel_rfl) (fun _ _ _ h => h) (Or.inl ⟨by rfl, fun w hSw => ?hy6⟩) HS0 ?_
          case hy6 => (try dsimp only at hSw); go_simp
          simp only [Act.put, List.getElem_toArray, List.getElem_cons_zero, List.getElem_cons_succ, List.setIfInBounds_toArray, List.set_cons_zero, List.set_cons_succ]
          refine wpUntil.takeC (i := 7) (v := (.string (B b0))) [9, 13] rfl (by kernel_rfl) (by kernel_rfl) (by kernel_rfl) (by kernel_rfl) (fun _ _ _ h => h) (Or.inl ⟨by rfl, fun w hSw => ?hy7⟩) HS0 ?_
          case hy7 => (try dsimp only at hSw); go_simp
          simp only [Act.put, List.getElem_toArray, List.getElem_cons_zero, List.getElem_cons_succ, List.setIfInBounds_toArray, List.set_cons_zero, List.set_cons_succ]
          refine wpUntil.takeC (i := 8) (v := (.int .i64 l0)) [9, 13] rfl (by kernel_rfl) (by kernel_rfl) (by kernel_rfl) (by kernel_rfl) (fun _ _ _ h => h) (Or.inl ⟨by rfl, fun w hSw => ?hy8⟩) HS0 ?_
          case hy8 => (try dsimp only at hSw); go_simp
          simp only [Act.put, List.getElem_toArray, List.getElem_cons_zero, List.getElem_cons_succ, List.setIfInBounds_toArray, List.set_cons_zero, List.set_cons_succ]
          refine wpUntil.takeC (i := 9) (v := (.string (B (b0.take l0)))) [13] rfl (by kernel_rfl) (by kernel_rfl) (by kernel_rfl) (by kernel_rfl) (fun _ _ _ h => h) (Or.inl ⟨by rfl, fun w hSw => ?hy9⟩) HS0 ?_
          case hy9 => (try dsimp only at hSw); go_simp
          simp only [Act.put, List.getElem_toArray, List.getElem_cons_zero, List.getElem_cons_succ, List.setIfInBounds_toArray, List.set_cons_zero, List.set_cons_succ]
          refine wpUntil.takeC (i := 10) (v := (.pointer (some ⟨q, 0, none⟩))) [11, 12, 13] rfl (by kernel_rfl) (by kernel_rfl) (by kernel_rfl) (by kernel_rfl) (fun _ _ _ h => h) (Or.inl ⟨by rfl, fun w hSw => ?hy10⟩) HS0 ?_
          case hy10 => (try dsimp only at hSw); go_simp
          simp only [Act.put, List.getElem_toArray, List.getElem_cons_zero, List.getElem_cons_succ, List.setIfInBounds_toArray, List.set_cons_zero, List.set_cons_succ]
          refine wpUntil.takeC (i := 11) (v := (.pointer (some ⟨q, 0, none⟩))) [12, 13] rfl (by kernel_rfl) (by kernel_rfl) (by kernel_rfl) (by kernel_rfl) (fun _ _ _ h => h) (Or.inl ⟨by rfl, fun w hSw => ?hy11⟩) HS0 ?_
          case hy11 => (try dsimp only at hSw); go_simp
          simp only [Act.put, List.getElem_toArray, List.getElem_cons_zero, List.getElem_cons_succ, List.setIfInBounds_toArray, List.set_cons_zero, List.set_cons_succ]
          refine wpUntil.takeC (i := 12) (v := (.pointer (some ⟨q, 0, none⟩))) [13] rfl (by kernel_rfl) (by kernel_rfl) (by kernel_rfl) (by kernel_rfl) (fun _ _ _ h => h) (Or.inl ⟨by rfl, fun w hSw => ?hy12⟩) HS0 ?_
          case hy12 => (try dsimp only at hSw); go_simp
          simp only [Act.put, List.getElem_toArray, List.getElem_cons_zero, List.getElem_cons_succ, List.setIfInBounds_toArray, List.set_cons_zero, List.set_cons_succ]
          refine wpUntil.only (i := 13) rfl (by kernel_rfl) (by rfl) ?_
          simp only [Act.put, List.getElem_toArray, List.getElem_cons_zero, List.getElem_cons_succ, List.setIfInBounds_toArray, List.set_cons_zero, List.set_cons_succ]
          go_simp
          refine ⟨by kernel_rfl, ?_⟩
          go_wp2_with fail
          rw [HSS.out]
          exact ⟨⟨(turned_set (S := fun k => k = q) (turned_set (S := fun k => k = q) HT.out rfl _) rfl _).drew, .inr (.inl ⟨rfl, rd_set0 HW.out _ _⟩)⟩, by simp [intOf]⟩
      · have e1 : decide (keep < (d : Int)) = false := by simp; omega
        have hsv : b0.length = s0 := by rw [HS0.out]; unfold stayN; omega
        have HSS : Hid (b0.length = s0) := hsv
        clear hsv hd h1 h2 h3 h4 h5 h6 ht
        go_wp2_with fail
        refine wp_region_until (fun w' => w'.cell? ⟨q, 0, none⟩ = some (.string (B b0))) 13 (by kernel_rfl) ?_
        have HS0 : ((fun w' => w'.cell? ⟨q, 0, none⟩ = some (.string (B b0))) : World → Prop) wr.drew := q0
        refine wpUntil.takeC (i := 0) (v := (.pointer (some ⟨q, 0, none⟩))) [10, 11, 12, 13] rfl (by kernel_rfl) (by kernel_rfl) (by kernel_rfl) (by kernel_rfl) (fun _ _ _ h => h) (Or.inl ⟨by rfl, fun w hSw => ?hy0⟩) HS0 ?_
        case hy0 => (try dsimp only at hSw); go_simp
        simp only [Act.put, List.getElem_toArray, List.getElem_cons_zero, List.getElem_cons_succ, List.setIfInBounds_toArray, List.set_cons_zero, List.set_cons_succ]
        refine wpUntil.takeC (i := 1) (v := (.int .i64 0)) [12, 13] rfl (by kernel_rfl) (by kernel_rfl) (by kernel_rfl) (by kernel_rfl) (fun _ _ _ h => h) (Or.inl ⟨by rfl, fun w hSw => ?hy1⟩) HS0 ?_
        case hy1 => (try dsimp only at hSw); go_simp
        simp only [Act.put, List.getElem_toArray, List.getElem_cons_zero, List.getElem_cons_succ, List.setIfInBounds_toArray, List.set_cons_zero, List.set_cons_succ]
        refine wpUntil.takeC (i := 2) (v := (.pointer (some ⟨q, 0, none⟩))) [4, 5, 6, 7, 9, 13] rfl (by kernel_rfl) (by kernel_rfl) (by kernel_rfl) (by kernel_rfl) (fun _ _ _ h => h) (Or.inl ⟨by rfl, fun w hSw => ?hy2⟩) HS0 ?_
        case hy2 => (try dsimp only at hSw); go_simp
        simp only [Act.put, List.getElem_toArray, List.getElem_cons_zero, List.getElem_cons_succ, List.setIfInBounds_toArray, List.set_cons_zero, List.set_cons_succ]
        refine wpUntil.takeC (i := 3) (v := (.int .i64 0)) [6, 7, 9, 13] rfl (by kernel_rfl) (by kernel_rfl) (by kernel_rfl) (by kernel_rfl) (fun _ _ _ h => h) (Or.inl ⟨by rfl, fun w hSw => ?hy3⟩) HS0 ?_
        case hy3 => (try dsimp only at hSw); go_simp
        simp only [Act.put, List.getElem_toArray, List.getElem_cons_zero, List.getElem_cons_succ, List.setIfInBounds_toArray, List.set_cons_zero, List.set_cons_succ]
        refine wpUntil.takeC (i := 4) (v := (.pointer (some ⟨q, 0, none⟩))) [5, 6, 7, 9, 13] rfl (by kernel_rfl) (by kernel_rfl) (by kernel_rfl) (by kernel_rfl) (fun _ _ _ h => h) (Or.inl ⟨by rfl, fun w hSw => ?hy4⟩) HS0 ?_
        case hy4 => (try dsimp only at hSw); go_simp
        simp only [Act.put, List.getElem_toArray, List.getElem_cons_zero, List.getElem_cons_succ, List.setIfInBounds_toArray, List.set_cons_zero, List.set_cons_succ]
        refine wpUntil.takeC (i := 5) (v := (.pointer (some ⟨q, 0, none⟩))) [6, 7, 9, 13] rfl (by kernel_rfl) (by kernel_rfl) (by kernel_rfl) (by kernel_rfl) (fun _ _ _ h => h) (Or.inl ⟨by rfl, fun w hSw => ?hy5⟩) HS0 ?_
        case hy5 => (try dsimp only at hSw); go_simp
        simp only [Act.put, List.getElem_toArray, List.getElem_cons_zero, List.getElem_cons_succ, List.setIfInBounds_toArray, List.set_cons_zero, List.set_cons_succ]
        refine wpUntil.takeC (i := 6) (v := (.pointer (some ⟨q, 0, none⟩))) [7, 9, 13] rfl (by kernel_rfl) (by kernel_rfl) (by kernel_rfl) (by kernel_rfl) (fun _ _ _ h => h) (Or.inl ⟨by rfl, fun w hSw => ?hy6⟩) HS0 ?_
        case hy6 => (try dsimp only at hSw); go_simp
        simp only [Act.put, List.getElem_toArray, List.getElem_cons_zero, List.getElem_cons_succ, List.setIfInBounds_toArray, List.set_cons_zero, List.set_cons_succ]
        refine wpUntil.takeC (i := 7) (v := (.string (B b0))) [9, 13] rfl (by kernel_rfl) (by kernel_rfl) (by kernel_rfl) (by kernel_rfl) (fun _ _ _ h => h) (Or.inl ⟨by rfl, fun w hSw => ?hy7⟩) HS0 ?_
        case hy7 => (try dsimp only at hSw); go_simp
        simp only [Act.put, List.getElem_toArray, List.getElem_cons_zero, List.getElem_cons_succ, List.setIfInBounds_toArray, List.set_cons_zero, List.set_cons_succ]
        refine wpUntil.takeC (i := 8) (v := (.int .i64 b0.length)) [9, 13] rfl (by kernel_rfl) (by kernel_rfl) (by kernel_rfl) (by kernel_rfl) (fun _ _ _ h => h) (Or.inl ⟨by rfl, fun w hSw => ?hy8⟩) HS0 ?_
        case hy8 => (try dsimp only at hSw); go_simp
        simp only [Act.put, List.getElem_toArray, List.getElem_cons_zero, List.getElem_cons_succ, List.setIfInBounds_toArray, List.set_cons_zero, List.set_cons_succ]
        refine wpUntil.takeC (i := 9) (v := (.string (B (b0.take b0.length)))) [13] rfl (by kernel_rfl) (by kernel_rfl) (by kernel_rfl) (by kernel_rfl) (fun _ _ _ h => h) (Or.inl ⟨by rfl, fun w hSw => ?hy9⟩) HS0 ?_
        case hy9 => (try dsimp only at hSw); go_simp
        simp only [Act.put, List.getElem_toArray, List.getElem_cons_zero, List.getElem_cons_succ, List.setIfInBounds_toArray, List.set_cons_zero, List.set_cons_succ]
        refine wpUntil.takeC (i := 10) (v := (.pointer (some ⟨q, 0, none⟩))) [11, 12, 13] rfl (by kernel_rfl) (by kernel_rfl) (by kernel_rfl) (by kernel_rfl) (fun _ _ _ h => h) (Or.inl ⟨by rfl, fun w hSw => ?hy10⟩) HS0 ?_
        case hy10 => (try dsimp only at hSw); go_simp
        simp only [Act.put, List.getElem_toArray, List.getElem_cons_zero, List.getElem_cons_succ, List.setIfInBounds_toArray, List.set_cons_zero, List.set_cons_succ]
        refine wpUntil.takeC (i := 11) (v := (.pointer (some ⟨q, 0, none⟩))) [12, 13] rfl (by kernel_rfl) (by kernel_rfl) (by kernel_rfl) (by kernel_rfl) (fun _ _ _ h => h) (Or.inl ⟨by rfl, fun w hSw => ?hy11⟩) HS0 ?_
        case hy11 => (try dsimp only at hSw); go_simp
        simp only [Act.put, List.getElem_toArray, List.getElem_cons_zero, List.getElem_cons_succ, List.setIfInBounds_toArray, List.set_cons_zero, List.set_cons_succ]
        refine wpUntil.takeC (i := 12) (v := (.pointer (some ⟨q, 0, none⟩))) [13] rfl (by kernel_rfl) (by kernel_rfl) (by kernel_rfl) (by kernel_rfl) (fun _ _ _ h => h) (Or.inl ⟨by rfl, fun w hSw => ?hy12⟩) HS0 ?_
        case hy12 => (try dsimp only at hSw); go_simp
        simp only [Act.put, List.getElem_toArray, List.getElem_cons_zero, List.getElem_cons_succ, List.setIfInBounds_toArray, List.set_cons_zero, List.set_cons_succ]
        refine wpUntil.only (i := 13) rfl (by kernel_rfl) (by rfl) ?_
        simp only [Act.put, List.getElem_toArray, List.getElem_cons_zero, List.getElem_cons_succ, List.setIfInBounds_toArray, List.set_cons_zero, List.set_cons_succ]
        go_simp
        refine ⟨by kernel_rfl, ?_⟩
        go_wp2_with fail
        have et : b0.take s0 = b0 := by rw [← HSS.out, List.take_length]
        rw [HSS.out, et]
        exact ⟨⟨(turned_set (S := fun k => k = q) (turned_set (S := fun k => k = q) HT.out rfl _) rfl _).drew, .inr (.inl ⟨rfl, rd_set0 HW.out _ _⟩)⟩, by simp [intOf]⟩
    · obtain ⟨q0, q1, q2, q3, q4, q5, q6, q7, qf⟩ := rd_cells HW.out
      have hqr : q < wr.heap.size := (Array.getElem?_eq_some_iff.1 HW.out).1
      obtain ⟨d, hd⟩ : ∃ d : Nat, d = b1.length - l1 := ⟨_, rfl⟩
      obtain ⟨h1, h2, h3, h4⟩ := HFT.out
      obtain ⟨h5, h6⟩ := HK.out
      have w1 : IntKind.i64.wrap ((b1.length : Int) - (l1 : Int)) = (d : Int) := by rw [wrap_id _ (by omega) (by omega)]; omega
      have HSL : Hid (s1 ≤ b1.length) := by show _ ≤ _; rw [HS1.out]; exact stayN_le (by omega)
      have HT : Hid (w.turned wr (fun k => k = q)) := ht
      by_cases hlt : keep < (d : Int)
      · have e1 : decide (keep < (d : Int)) = true := by simp [hlt]
        by_cases hpos : 0 < keep
        · obtain ⟨s, hs⟩ : ∃ s, s = s1 := ⟨_, rfl⟩
          have hsv : s = l1 + keep.toNat := by rw [hs, HS1.out]; unfold stayN; omega
          have w2 : IntKind.i64.wrap ((l1 : Int) + keep) = (s : Int) := by rw [wrap_id _ (by omega) (by omega)]; omega
          have hsl : s ≤ b1.length := by rw [hs]; exact HSL.out
          have HSS : Hid (s = s1) := hs
          clear hs hsv hd h1 h2 h3 h4 h5 h6 ht
          go_wp2_with fail
          refine wp_region_until (fun w' => w'.cell? ⟨q, 1, none⟩ = some (.string (B b1))) 13 (by kernel_rfl) ?_
          have HS0 : ((fun w' => w'.cell? ⟨q, 1, none⟩ = some (.string (B b1))) : World → Prop) wr.drew := q1
          refine wpUntil.takeC (i := 0) (v := (.pointer (some ⟨q, 0, none⟩))) [10, 11, 12, 13] rfl (by kernel_rfl) (by kernel_rfl) (by kernel_rfl) (by kernel_rfl) (fun _ _ _ h => h) (Or.inl ⟨by rfl, fun w hSw => ?hy0⟩) HS0 ?_
          case hy0 => (try dsimp only at hSw); go_simp
          simp only [Act.put, List.getElem_toArray, List.getElem_cons_zero, List.getElem_cons_succ, List.setIfInBounds_toArray, List.set_cons_zero, List.set_cons_succ]
          refine wpUntil.takeC (i := 1) (v := (.int .i64 1)) [12, 13] rfl (by kernel_rfl) (by kernel_rfl) (by kernel_rfl) (by kernel_rfl) (fun _ _ _ h => h) (Or.inl ⟨by rfl, fun w hSw => ?hy1⟩) HS0 ?_
          case hy1 => (try dsimp only at hSw); go_simp
          simp only [Act.put, List.getElem_toArray, List.getElem_cons_zero, List.getElem_cons_succ, List.setIfInBounds_toArray, List.set_cons_zero, List.set_cons_succ]
          refine wpUntil.takeC (i := 2) (v := (.pointer (some ⟨q, 0, none⟩))) [4, 5, 6, 7, 9, 13] rfl (by kernel_rfl) (by kernel_rfl) (by kernel_rfl) (by kernel_rfl) (fun _ _ _ h => h) (Or.inl ⟨by rfl, fun w hSw => ?hy2⟩) HS0 ?_
          case hy2 => (try dsimp only at hSw); go_simp
          simp only [Act.put, List.getElem_toArray, List.getElem_cons_zero, List.getElem_cons_succ, List.setIfInBounds_toArray, List.set_cons_zero, List.set_cons_succ]
          refine wpUntil.takeC (i := 3) (v := (.int .i64 1)) [6, 7, 9, 13] rfl (by kernel_rfl) (by kernel_rfl) (by kernel_rfl) (by kernel_rfl) (fun _ _ _ h => h) (Or.inl ⟨by rfl, fun w hSw => ?hy3⟩) HS0 ?_
          case hy3 => (try dsimp only at hSw); go_simp
          simp only [Act.put, List.getElem_toArray, List.getElem_cons_zero, List.getElem_cons_succ, List.setIfInBounds_toArray, List.set_cons_zero, List.set_cons_succ]
          refine wpUntil.takeC (i := 4) (v := (.pointer (some ⟨q, 0, none⟩))) [5, 6, 7, 9, 13] rfl (by kernel_rfl) (by kernel_rfl) (by kernel_rfl) (by kernel_rfl) (fun _ _ _ h => h) (Or.inl ⟨by rfl, fun w hSw => ?hy4⟩) HS0 ?_
          case hy4 => (try dsimp only at hSw); go_simp
          simp only [Act.put, List.getElem_toArray, List.getElem_cons_zero, List.getElem_cons_succ, List.setIfInBounds_toArray, List.set_cons_zero, List.set_cons_succ]
          refine wpUntil.takeC (i := 5) (v := (.pointer (some ⟨q, 0, none⟩))) [6, 7, 9, 13] rfl (by kernel_rfl) (by kernel_rfl) (by kernel_rfl) (by kernel_rfl) (fun _ _ _ h => h) (Or.inl ⟨by rfl, fun w hSw => ?hy5⟩) HS0 ?_
          case hy5 => (try dsimp only at hSw); go_simp
          simp only [Act.put, List.getElem_toArray, List.getElem_cons_zero, List.getElem_cons_succ, List.setIfInBounds_toArray, List.set_cons_zero, List.set_cons_succ]
          refine wpUntil.takeC (i := 6) (v := (.pointer (some ⟨q, 1, none⟩))) [7, 9, 13] rfl (by kernel_rfl) (by kernel_rfl) (by kernel_rfl) (by kernel_rfl) (fun _ _ _ h => h) (Or.inl ⟨by rfl, fun w hSw => ?hy6⟩) HS0 ?_
          case hy6 => (try dsimp only at hSw); go_simp
          simp only [Act.put, List.getElem_toArray, List.getElem_cons_zero, List.getElem_cons_succ, List.setIfInBounds_toArray, List.set_cons_zero, List.set_cons_succ]
          refine wpUntil.takeC (i := 7) (v := (.string (B b1))) [9, 13] rfl (by kernel_rfl) (by kernel_rfl) (by kernel_rfl) (by kernel_rfl) (fun _ _ _ h => h) (Or.inl ⟨by rfl, fun w hSw => ?hy7⟩) HS0 ?_
          case hy7 => (try dsimp only at hSw); go_simp
          simp only [Act.put, List.getElem_toArray, List.getElem_cons_zero, List.getElem_cons_succ, List.setIfInBounds_toArray, List.set_cons_zero, List.set_cons_succ]
          refine wpUntil.takeC (i := 8) (v := (.int .i64 s)) [9, 13] rfl (by kernel_rfl) (by kernel_rfl) (by kernel_rfl) (by kernel_rfl) (fun _ _ _ h => h) (Or.inl ⟨by rfl, fun w hSw => ?hy8⟩) HS0 ?_
          case hy8 => (try dsimp only at hSw); go_simp
          simp only [Act.put, List.getElem_toArray, List.getElem_cons_zero, List.getElem_cons_succ, List.setIfInBounds_toArray, List.set_cons_zero, List.set_cons_succ]
          refine wpUntil.takeC (i := 9) (v := (.string (B (b1.take s)))) [13] rfl (by kernel_rfl) (by kernel_rfl) (by kernel_rfl) (by kernel_rfl) (fun _ _ _ h => h) (Or.inl ⟨by rfl, fun w hSw => ?hy9⟩) HS0 ?_
          case hy9 => (try dsimp only at hSw); go_simp
          simp only [Act.put, List.getElem_toArray, List.getElem_cons_zero, List.getElem_cons_succ, List.setIfInBounds_toArray, List.set_cons_zero, List.set_cons_succ]
          refine wpUntil.takeC (i := 10) (v := (.pointer (some ⟨q, 0, none⟩))) [11, 12, 13] rfl (by kernel_rfl) (by kernel_rfl) (by kernel_rfl) (by kernel_rfl) (fun _ _ _ h => h) (Or.inl ⟨by rfl, fun w hSw => ?hy10⟩) HS0 ?_
          case hy10 => (try dsimp only at hSw); go_simp
          simp only [Act.put, List.getElem_toArray, List.getElem_cons_zero, List.getElem_cons_succ, List.setIfInBounds_toArray, List.set_cons_zero, List.set_cons_succ]
          refine wpUntil.takeC (i := 11) (v := (.pointer (some ⟨q, 0, none⟩))) [12, 13] rfl (by kernel_rfl) (by kernel_rfl) (by kernel_rfl) (by kernel_rfl) (fun _ _ _ h => h) (Or.inl ⟨by rfl, fun w hSw => ?hy11⟩) HS0 ?_
          case hy11 => (try dsimp only at hSw); go_simp
          simp only [Act.put, List.getElem_toArray, List.getElem_cons_zero, List.getElem_cons_succ, List.setIfInBounds_toArray, List.set_cons_zero, List.set_cons_succ]
          refine wpUntil.takeC (i := 12) (v := (.pointer (some ⟨q, 1, none⟩))) [13] rfl (by kernel_rfl) (by kernel_rfl) (by kernel_rfl) (by kernel_rfl) (fun _ _ _ h => h) (Or.inl ⟨by rfl, fun w hSw => ?hy12⟩) HS0 ?_
          case hy12 => (try dsimp only at hSw); go_simp
          simp only [Act.put, List.getElem_toArray, List.getElem_cons_zero, List.getElem_cons_succ, List.setIfInBounds_toArray, List.set_cons_zero, List.set_cons_succ]
          refine wpUntil.only (i := 13) rfl (by kernel_rfl) (by rfl) ?_
          simp only [Act.put, List.getElem_toArray, List.getElem_cons_zero, List.getElem_cons_succ, List.setIfInBounds_toArray, List.set_cons_zero, List.set_cons_succ]
          go_simp
          refine ⟨by kernel_rfl, ?_⟩
          go_wp2_with fail
          rw [HSS.out]
          exact ⟨⟨(turned_set (S := fun k => k = q) (turned_set (S := fun k => k = q) HT.out rfl _) rfl _).drew, .inr (.inr ⟨rfl, rd_set1 HW.out _ _⟩)⟩, by simp [intOf]⟩
        · obtain ⟨s, hs⟩ : ∃ s, s = s1 := ⟨_, rfl⟩
          have hsv : l1 = s1 := by rw [HS1.out]; unfold stayN; omega
          have e2 : decide (0 < keep) = false := by simp; omega
          have hsl : l1 ≤ b1.length := by omega
          have HSS : Hid (l1 = s1) := hsv
          clear hs hsv hd h1 h2 h3 h4 h5 h6 ht
          go_wp2_with fail
          refine wp_region_until (fun w' => w'.cell? ⟨q, 1, none⟩ = some (.string (B b1))) 13 (by kernel_rfl) ?_
          have HS0 : ((fun w' => w'.cell? ⟨q, 1, none⟩ = some (.string (B b1))) : World → Prop) wr.drew := q1
          refine wpUntil.takeC (i := 0) (v := (.pointer (some ⟨q, 0, none⟩))) [10, 11, 12, 13] rfl (by kernel_rfl) (by kernel_rfl) (by kernel_rfl) (by kernel_rfl) (fun _ _ _ h => h) (Or.inl ⟨by rfl, fun w hSw => ?hy0⟩) HS0 ?_
          case hy0 => (try dsimp only at hSw); go_simp
          simp only [Act.put, List.getElem_toArray, List.getElem_cons_zero, List.getElem_cons_succ, List.setIfInBounds_toArray, List.set_cons_zero, List.set_cons_succ]
          refine wpUntil.takeC (i := 1) (v := (.int .i64 1)) [12, 13] rfl (by kernel_rfl) (by kernel_rfl) (by kernel_rfl) (by kernel_rfl) (fun _ _ _ h => h) (Or.inl ⟨by rfl, fun w hSw => ?hy1⟩) HS0 ?_
          case hy1 => (try dsimp only at hSw); go_simp
          simp only [Act.put, List.getElem_toArray, List.getElem_cons_zero, List.getElem_cons_succ, List.setIfInBounds_toArray, List.set_cons_zero, List.set_cons_succ]
          refine wpUntil.takeC (i := 2) (v := (.pointer (some ⟨q, 0, none⟩))) [4, 5, 6, 7, 9, 13] rfl (by kernel_rfl) (by kernel_rfl) (by kernel_rfl) (by kernel_rfl) (fun _ _ _ h => h) (Or.inl ⟨by rfl, fun w hSw => ?hy2⟩) HS0 ?_
          case hy2 => (try dsimp only at hSw); go_simp
          simp only [Act.put, List.getElem_toArray, List.getElem_cons_zero, List.getElem_cons_succ, List.setIfInBounds_toArray, List.set_cons_zero, List.set_cons_succ]
          refine wpUntil.takeC (i := 3) (v := (.int .i64 1)) [6, 7, 9, 13] rfl (by kernel_rfl) (by kernel_rfl) (by kernel_rfl) (by kernel_rfl) (fun _ _ _ h => h) (Or.inl ⟨by rfl, fun w hSw => ?hy3⟩) HS0 ?_
          case hy3 => (try dsimp only at hSw); go_simp
          simp only [Act.put, List.getElem_toArray, List.getElem_cons_zero, List.getElem_cons_succ, List.setIfInBounds_toArray, List.set_cons_zero, List.set_cons_succ]
          refine wpUntil.takeC (i := 4) (v := (.pointer (some ⟨q, 0, none⟩))) [5, 6, 7, 9, 13] rfl (by kernel_rfl) (by kernel_rfl) (by kernel_rfl) (by kernel_rfl) (fun _ _ _ h => h) (Or.inl ⟨by rfl, fun w hSw => ?hy4⟩) HS0 ?_
          case hy4 => (try dsimp only at hSw); go_simp
          simp only [Act.put, List.getElem_toArray, List.getElem_cons_zero, List.getElem_cons_succ, List.setIfInBounds_toArray, List.set_cons_zero, List.set_cons_succ]
          refine wpUntil.takeC (i := 5) (v := (.pointer (some ⟨q, 0, none⟩))) [6, 7, 9, 13] rfl (by kernel_rfl) (by kernel_rfl) (by kernel_rfl) (by kernel_rfl) (fun _ _ _ h => h) (Or.inl ⟨by rfl, fun w hSw => ?hy5⟩) HS0 ?_
          case hy5 => (try dsimp only at hSw); go_simp
          simp only [Act.put, List.getElem_toArray, List.getElem_cons_zero, List.getElem_cons_succ, List.setIfInBounds_toArray, List.set_cons_zero, List.set_cons_succ]
          refine wpUntil.takeC (i := 6) (v := (.pointer (some ⟨q, 1, none⟩))) [7, 9, 13] rfl (by kernel_rfl) (by kernel_rfl) (by kernel_rfl) (by kernel_rfl) (fun _ _ _ h => h) (Or.inl ⟨by rfl, fun w hSw => ?hy6⟩) HS0 ?_
          case hy6 => (try dsimp only at hSw); go_simp
          simp only [Act.put, List.getElem_toArray, List.getElem_cons_zero, List.getElem_cons_succ, List.setIfInBounds_toArray, List.set_cons_zero, List.set_cons_succ]
          refine wpUntil.takeC (i := 7) (v := (.string (B b1))) [9, 13] rfl (by kernel_rfl) (by kernel_rfl) (by kernel_rfl) (by kernel_rfl) (fun _ _ _ h => h) (Or.inl ⟨by rfl, fun w hSw => ?hy7⟩) HS0 ?_
          case hy7 => (try dsimp only at hSw); go_simp
          simp only [Act.put, List.getElem_toArray, List.getElem_cons_zero, List.getElem_cons_succ, List.setIfInBounds_toArray, List.set_cons_zero, List.set_cons_succ]
          refine wpUntil.takeC (i := 8) (v := (.int .i64 l1)) [9, 13] rfl (by kernel_rfl) (by kernel_rfl) (by kernel_rfl) (by kernel_rfl) (fun _ _ _ h => h) (Or.inl ⟨by rfl, fun w hSw => ?hy8⟩) HS0 ?_
          case hy8 => (try dsimp only at hSw); go_simp
          simp only [Act.put, List.getElem_toArray, List.getElem_cons_zero, List.getElem_cons_succ, List.setIfInBounds_toArray, List.set_cons_zero, List.set_cons_succ]
          refine wpUntil.takeC (i := 9) (v := (.string (B (b1.take l1)))) [13] rfl (by kernel_rfl) (by kernel_rfl) (by kernel_rfl) (by kernel_rfl) (fun _ _ _ h => h) (Or.inl ⟨by rfl, fun w hSw => ?hy9⟩) HS0 ?_
          case hy9 => (try dsimp only at hSw); go_simp
          simp only [Act.put, List.getElem_toArray, List.getElem_cons_zero, List.getElem_cons_succ, List.setIfInBounds_toArray, List.set_cons_zero, List.set_cons_succ]
          refine wpUntil.takeC (i := 10) (v := (.pointer (some ⟨q, 0, none⟩))) [11, 12, 13] rfl (by kernel_rfl) (by kernel_rfl) (by kernel_rfl) (by kernel_rfl) (fun _ _ _ h => h) (Or.inl ⟨by rfl, fun w hSw => ?hy10⟩) HS0 ?_
          case hy10 => (try dsimp only at hSw); go_simp
          simp only [Act.put, List.getElem_toArray, List.getElem_cons_zero, List.getElem_cons_succ, List.setIfInBounds_toArray, List.set_cons_zero, List.set_cons_succ]
          refine wpUntil.takeC (i := 11) (v := (.pointer (some ⟨q, 0, none⟩))) [12, 13] rfl (by kernel_rfl) (by kernel_rfl) (by kernel_rfl) (by kernel_rfl) (fun _ _ _ h => h) (Or.inl ⟨by rfl, fun w hSw => ?hy11⟩) HS0 ?_
          case hy11 => (try dsimp only at hSw); go_simp
          simp only [Act.put, List.getElem_toArray, List.getElem_cons_zero, List.getElem_cons_succ, List.setIfInBounds_toArray, List.set_cons_zero, List.set_cons_succ]
          refine wpUntil.takeC (i := 12) (v := (.pointer (some ⟨q, 1, none⟩))) [13] rfl (by kernel_rfl) (by kernel_rfl) (by kernel_rfl) (by kernel_rfl) (fun _ _ _ h => h) (Or.inl ⟨by rfl, fun w hSw => ?hy12⟩) HS0 ?_
          case hy12 => (try dsimp only at hSw); go_simp
          simp only [Act.put, List.getElem_toArray, List.getElem_cons_zero, List.getElem_cons_succ, List.setIfInBounds_toArray, List.set_cons_zero, List.set_cons_succ]
          refine wpUntil.only (i := 13) rfl (by kernel_rfl) (by rfl) ?_
          simp only [Act.put, List.getElem_toArray, List.getElem_cons_zero, List.getElem_cons_succ, List.setIfInBounds_toArray, List.set_cons_zero, List.set_cons_succ]
          go_simp
          refine ⟨by kernel_rfl, ?_⟩
          go_wp2_with fail
          rw [HSS.out]
          exact ⟨⟨(turned_set (S := fun k => k = q) (turned_set (S := fun k => k = q) HT.out rfl _) rfl _).drew, .inr (.inr ⟨rfl, rd_set1 HW.out _ _⟩)⟩, by simp [intOf]⟩
      · have e1 : decide (keep < (d : Int)) = false := by simp; omega
        have hsv : b1.length = s1 := by rw [HS1.out]; unfold stayN; omega
        have HSS : Hid (b1.length = s1) := hsv
        clear hsv hd h1 h2 h3 h4 h5 h6 ht
        go_wp2_with fail
        refine wp_region_until (fun w' => w'.cell? ⟨q, 1, none⟩ = some (.string (B b1))) 13 (by kernel_rfl) ?_
        have HS0 : ((fun w' => w'.cell? ⟨q, 1, none⟩ = some (.string (B b1))) : World → Prop) wr.drew := q1
        refine wpUntil.takeC (i := 0) (v := (.pointer (some ⟨q, 0, none⟩))) [10, 11, 12, 13] rfl (by kernel_rfl) (by kernel_rfl) (by kernel_rfl) (by kernel_rfl) (fun _ _ _ h => h) (Or.inl ⟨by rfl, fun w hSw => ?hy0⟩) HS0 ?_
        case hy0 => (try dsimp only at hSw); go_simp
        simp only [Act.put, List.getElem_toArray, List.getElem_cons_zero, List.getElem_cons_succ, List.setIfInBounds_toArray, List.set_cons_zero, List.set_cons_succ]
        refine wpUntil.takeC (i := 1) (v := (.int .i64 1)) [12, 13] rfl (by kernel_rfl) (by kernel_rfl) (by kernel_rfl) (by kernel_rfl) (fun _ _ _ h => h) (Or.inl ⟨by rfl, fun w hSw => ?hy1⟩) HS0 ?_
        case hy1 => (try dsimp only at hSw); go_simp
        simp only [Act.put, List.getElem_toArray, List.getElem_cons_zero, List.getElem_cons_succ, List.setIfInBounds_toArray, List.set_cons_zero, List.set_cons_succ]
        refine wpUntil.takeC (i := 2) (v := (.pointer (some ⟨q, 0, none⟩))) [4, 5, 6, 7, 9, 13] rfl (by kernel_rfl) (by kernel_rfl) (by kernel_rfl) (by kernel_rfl) (fun _ _ _ h => h) (Or.inl ⟨by rfl, fun w hSw => ?hy2⟩) HS0 ?_
        case hy2 => (try dsimp only at hSw); go_simp
        simp only [Act.put, List.getElem_toArray, List.getElem_cons_zero, List.getElem_cons_succ, List.setIfInBounds_toArray, List.set_cons_zero, List.set_cons_succ]
        refine wpUntil.takeC (i := 3) (v := (.int .i64 1)) [6, 7, 9, 13] rfl (by kernel_rfl) (by kernel_rfl) (by kernel_rfl) (by kernel_rfl) (fun _ _ _ h => h) (Or.inl ⟨by rfl, fun w hSw => ?hy3⟩) HS0 ?_
        case hy3 => (try dsimp only at hSw); go_simp
        simp only [Act.put, List.getElem_toArray, List.getElem_cons_zero, List.getElem_cons_succ, List.setIfInBounds_toArray, List.set_cons_zero, List.set_cons_succ]
        refine wpUntil.takeC (i := 4) (v := (.pointer (some ⟨q, 0, none⟩))) [5, 6, 7, 9, 13] rfl (by kernel_rfl) (by kernel_rfl) (by kernel_rfl) (by kernel_rfl) (fun _ _ _ h => h) (Or.inl ⟨by rfl, fun w hSw => ?hy4⟩) HS0 ?_
        case hy4 => (try dsimp only at hSw); go_simp
        simp only [Act.put, List.getElem_toArray, List.getElem_cons_zero, List.getElem_cons_succ, List.setIfInBounds_toArray, List.set_cons_zero, List.set_cons_succ]
        refine wpUntil.takeC (i := 5) (v := (.pointer (some ⟨q, 0, none⟩))) [6, 7, 9, 13] rfl (by kernel_rfl) (by kernel_rfl) (by kernel_rfl) (by kernel_rfl) (fun _ _ _ h => h) (Or.inl ⟨by rfl, fun w hSw => ?hy5⟩) HS0 ?_
        case hy5 => (try dsimp only at hSw); go_simp
        simp only [Act.put, List.getElem_toArray, List.getElem_cons_zero, List.getElem_cons_succ, List.setIfInBounds_toArray, List.set_cons_zero, List.set_cons_succ]
        refine wpUntil.takeC (i := 6) (v := (.pointer (some ⟨q, 1, none⟩))) [7, 9, 13] rfl (by kernel_rfl) (by kernel_rfl) (by kernel_rfl) (by kernel_rfl) (fun _ _ _ h => h) (Or.inl ⟨by rfl, fun w hSw => ?hy6⟩) HS0 ?_
        case hy6 => (try dsimp only at hSw); go_simp
        simp only [Act.put, List.getElem_toArray, List.getElem_cons_zero, List.getElem_cons_succ, List.setIfInBounds_toArray, List.set_cons_zero, List.set_cons_succ]
        refine wpUntil.takeC (i := 7) (v := (.string (B b1))) [9, 13] rfl (by kernel_rfl) (by kernel_rfl) (by kernel_rfl) (by kernel_rfl) (fun _ _ _ h => h) (Or.inl ⟨by rfl, fun w hSw => ?hy7⟩) HS0 ?_
        case hy7 => (try dsimp only at hSw); go_simp
        simp only [Act.put, List.getElem_toArray, List.getElem_cons_zero, List.getElem_cons_succ, List.setIfInBounds_toArray, List.set_cons_zero, List.set_cons_succ]
        refine wpUntil.takeC (i := 8) (v := (.int .i64 b1.length)) [9, 13] rfl (by kernel_rfl) (by kernel_rfl) (by kernel_rfl) (by kernel_rfl) (fun _ _ _ h => h) (Or.inl ⟨by rfl, fun w hSw => ?hy8⟩) HS0 ?_
        case hy8 => (try dsimp only at hSw); go_simp
        simp only [Act.put, List.getElem_toArray, List.getElem_cons_zero, List.getElem_cons_succ, List.setIfInBounds_toArray, List.set_cons_zero, List.set_cons_succ]
        refine wpUntil.takeC (i := 9) (v := (.string (B (b1.take b1.length)))) [13] rfl (by kernel_rfl) (by kernel_rfl) (by kernel_rfl) (by kernel_rfl) (fun _ _ _ h => h) (Or.inl ⟨by rfl, fun w hSw => ?hy9⟩) HS0 ?_
        case hy9 => (try dsimp only at hSw); go_simp
        simp only [Act.put, List.getElem_toArray, List.getElem_cons_zero, List.getElem_cons_succ, List.setIfInBounds_toArray, List.set_cons_zero, List.set_cons_succ]
        refine wpUntil.takeC (i := 10) (v := (.pointer (some ⟨q, 0, none⟩))) [11, 12, 13] rfl (by kernel_rfl) (by kernel_rfl) (by kernel_rfl) (by kernel_rfl) (fun _ _ _ h => h) (Or.inl ⟨by rfl, fun w hSw => ?hy10⟩) HS0 ?_
        case hy10 => (try dsimp only at hSw); go_simp
        simp only [Act.put, List.getElem_toArray, List.getElem_cons_zero, List.getElem_cons_succ, List.setIfInBounds_toArray, List.set_cons_zero, List.set_cons_succ]
        refine wpUntil.takeC (i := 11) (v := (.pointer (some ⟨q, 0, none⟩))) [12, 13] rfl (by kernel_rfl) (by kernel_rfl) (by kernel_rfl) (by kernel_rfl) (fun _ _ _ h => h) (Or.inl ⟨by rfl, fun w hSw => ?hy11⟩) HS0 ?_
        case hy11 => (try dsimp only at hSw); go_simp
        simp only [Act.put, List.getElem_toArray, List.getElem_cons_zero, List.getElem_cons_succ, List.setIfInBounds_toArray, List.set_cons_zero, List.set_cons_succ]
        refine wpUntil.takeC (i := 12) (v := (.pointer (some ⟨q, 1, none⟩))) [13] rfl (by kernel_rfl) (by kernel_rfl) (by kernel_rfl) (by kernel_rfl) (fun _ _ _ h => h) (Or.inl ⟨by rfl, fun w hSw => ?hy12⟩) HS0 ?_
        case hy12 => (try dsimp only at hSw); go_simp
        simp only [Act.put, List.getElem_toArray, List.getElem_cons_zero, List.getElem_cons_succ, List.setIfInBounds_toArray, List.set_cons_zero, List.set_cons_succ]
        refine wpUntil.only (i := 13) rfl (by kernel_rfl) (by rfl) ?_
        simp only [Act.put, List.getElem_toArray, List.getElem_cons_zero, List.getElem_cons_succ, List.setIfInBounds_toArray, List.set_cons_zero, List.set_cons_succ]
        go_simp
        refine ⟨by kernel_rfl, ?_⟩
        go_wp2_with fail
        have et : b1.take s1 = b1 := by rw [← HSS.out, List.take_length]
        rw [HSS.out, et]
        exact ⟨⟨(turned_set (S := fun k => k = q) (turned_set (S := fun k => k = q) HT.out rfl _) rfl _).drew, .inr (.inr ⟨rfl, rd_set1 HW.out _ _⟩)⟩, by simp [intOf]⟩
    · obtain ⟨q0, q1, q2, q3, q4, q5, q6, q7, qf⟩ := rd_cells HW.out
      have hqr : q < wr.heap.size := (Array.getElem?_eq_some_iff.1 HW.out).1
      have HT : Hid (w.turned wr (fun k => k = q)) := ht
      clear ht
      go_wp2_with fail
      go_end0
      refine ⟨rfl, ⟨?_, fun h => absurd rfl h, H.out.kb, by show ((0 : Nat) : Int) < _; decide, (H.out.fit.crash keep).fit⟩, turned_set (S := fun k => k = q) (turned_set (S := fun k => k = q) HT.out rfl _) rfl _⟩
      obtain ⟨e0, e1, e2, e3⟩ := HEQ.out
      refine (cells_set (cells_set HW.out _) _).trans ?_
      simp only [List.setIfInBounds_toArray, List.set_cons_succ, List.set_cons_zero, Dk.crash, ← e0, ← e1, ← e2, ← e3, ← HS0.out, ← HS1.out]
      rfl
end Go.Proofs.Ytcbbnmodjnnbeaa
