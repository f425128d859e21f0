/- The document's disk: act. -/
import Derived.Test.YtcbbnmodjnnbeaaJrnB
set_option linter.unusedSimpArgs false
set_option linter.unusedVariables false
namespace Go.Proofs.Ytcbbnmodjnnbeaa
open Go.RowKit

theorem rdx_due {w : World} {q : Nat} {D : Dk} {kp : Int} {U M : Nat} (h : RD w q D kp U M) {n : Nat} (hn : n = D.due - 1) : RD (w.setCell ⟨q, 4, none⟩ (.int .i64 n)) q { D with due := n } kp U M := by
  refine ⟨?_, fun h0 => h.kq (fun e => h0 (by show n = 0; omega)), h.kb, by show ((n : Nat) : Int) < _; have := h.db; omega, ⟨h.fit.f0, h.fit.f1⟩⟩
  refine (cells_set h.blk _).trans ?_
  simp only [List.setIfInBounds_toArray, List.set_cons_succ, List.set_cons_zero]
theorem rdx_drew {w : World} {q : Nat} {D : Dk} {kp : Int} {U M : Nat} (h : RD w q D kp U M) : RD w.drew q D kp U M := h.keep rfl
theorem rdx_app0 {w : World} {q : Nat} {D : Dk} {kp : Int} {U M : Nat} (h : RD w q D kp U M) (l : List UInt8) : RD (w.setCell ⟨q, 0, none⟩ (.string (B (D.b0 ++ l)))) q (D.app 0 l) kp U M := by
  refine ⟨?_, h.kq, h.kb, h.db, ⟨?_, ?_⟩⟩
  · refine (cells_set h.blk _).trans ?_
    simp only [List.setIfInBounds_toArray, List.set_cons_succ, List.set_cons_zero]
    rfl
  · have := h.fit.f0; simp [Dk.app]; omega
  · have := h.fit.f1; simp [Dk.app]; omega
theorem rdx_last0 {w : World} {q : Nat} {D : Dk} {kp : Int} {U M : Nat} (h : RD w q D kp U M) : RD (w.setCell ⟨q, 2, none⟩ (.int .i64 D.b0.length)) q (D.last 0) kp U M := by
  refine ⟨?_, h.kq, h.kb, h.db, ⟨?_, ?_⟩⟩
  · refine (cells_set h.blk _).trans ?_
    simp only [List.setIfInBounds_toArray, List.set_cons_succ, List.set_cons_zero]
    rfl
  · have := h.fit.f0; simp [Dk.last]; try omega
  · have := h.fit.f1; simp [Dk.last]; try omega
theorem rdx_clr0 {w : World} {q : Nat} {D : Dk} {kp : Int} {U M : Nat} (h : RD w q D kp U M) : RD ((w.setCell ⟨q, 0, none⟩ (.string ⟨#[]⟩)).setCell ⟨q, 2, none⟩ (.int .i64 (0 : Nat))) q (D.clr 0) kp U M := by
  refine ⟨?_, h.kq, h.kb, h.db, ⟨?_, ?_⟩⟩
  · refine (cells_set (cells_set h.blk _) _).trans ?_
    simp only [List.setIfInBounds_toArray, List.set_cons_succ, List.set_cons_zero]
    rfl
  · have := h.fit.f0; simp [Dk.clr]; try omega
  · have := h.fit.f1; simp [Dk.clr]; try omega
theorem rdx_app1 {w : World} {q : Nat} {D : Dk} {kp : Int} {U M : Nat} (h : RD w q D kp U M) (l : List UInt8) : RD (w.setCell ⟨q, 1, none⟩ (.string (B (D.b1 ++ l)))) q (D.app 1 l) kp U M := by
  refine ⟨?_, h.kq, h.kb, h.db, ⟨?_, ?_⟩⟩
  · refine (cells_set h.blk _).trans ?_
    simp only [List.setIfInBounds_toArray, List.set_cons_succ, List.set_cons_zero]
    rfl
  · have := h.fit.f0; simp [Dk.app]; omega
  · have := h.fit.f1; simp [Dk.app]; omega
theorem rdx_last1 {w : World} {q : Nat} {D : Dk} {kp : Int} {U M : Nat} (h : RD w q D kp U M) : RD (w.setCell ⟨q, 3, none⟩ (.int .i64 D.b1.length)) q (D.last 1) kp U M := by
  refine ⟨?_, h.kq, h.kb, h.db, ⟨?_, ?_⟩⟩
  · refine (cells_set h.blk _).trans ?_
    simp only [List.setIfInBounds_toArray, List.set_cons_succ, List.set_cons_zero]
    rfl
  · have := h.fit.f0; simp [Dk.last]; try omega
  · have := h.fit.f1; simp [Dk.last]; try omega
theorem rdx_clr1 {w : World} {q : Nat} {D : Dk} {kp : Int} {U M : Nat} (h : RD w q D kp U M) : RD ((w.setCell ⟨q, 1, none⟩ (.string ⟨#[]⟩)).setCell ⟨q, 3, none⟩ (.int .i64 (0 : Nat))) q (D.clr 1) kp U M := by
  refine ⟨?_, h.kq, h.kb, h.db, ⟨?_, ?_⟩⟩
  · refine (cells_set (cells_set h.blk _) _).trans ?_
    simp only [List.setIfInBounds_toArray, List.set_cons_succ, List.set_cons_zero]
    rfl
  · have := h.fit.f0; simp [Dk.clr]; try omega
  · have := h.fit.f1; simp [Dk.clr]; try omega
set_option maxRecDepth 100000 in
set_option maxHeartbeats 8000000 in
theorem refAct1 (w : World) (q : Nat) (D : Dk) (kp : Int) (U M : Nat) (h : RD w q D kp U M) (k : Nat) (hk : k = 0 ∨ k = 1) (l : List UInt8) (hl0 : (D.app k l).b0.length ≤ 1000000000000) (hl1 : (D.app k l).b1.length ≤ 1000000000000) :
    Calls Try.prog 159 #[.pointer (some ⟨q, 0, none⟩), .int .i64 1, .int .i64 k, .string (B l)] w fun e w' => e = .returned (.bool (D.app k l).act.1) ∧ RD w' q (D.app k l).act.2 kp (if (D.app k l).act.1 = true then U else 0) M ∧ w.turned w' (fun k => k = q) := by
  have H : Hid (RD w q D kp U M) := h
  have HLB : Hid ((D.app k l).b0.length ≤ 1000000000000 ∧ (D.app k l).b1.length ≤ 1000000000000) := ⟨hl0, hl1⟩
  obtain ⟨q0, q1, q2, q3, q4, q5, q6, q7, qf⟩ := rd_cells h.blk
  have hq := h.lt
  have hdb := h.db
  clear h hl0 hl1
  obtain ⟨r, hr0⟩ : ∃ r, r = (D.app k l).act := ⟨_, rfl⟩
  obtain ⟨X, hX⟩ : ∃ X, X = if r.1 = true then U else 0 := ⟨_, rfl⟩
  have HX : Hid (X = if r.1 = true then U else 0) := hX
  rw [← hr0, ← hX]
  have HR : Hid (r = (D.app k l).act) := hr0
  clear hX hr0
  have hc3 : D.due = 0 ∨ D.due = 1 ∨ 2 ≤ D.due := by omega
  rcases hk with rfl | rfl
  · rcases hc3 with hc | hc | hc
    · have e1 : ((D.due : Int) == 1) = false := by rw [hc]; rfl
      have e2 : ¬ 0 < D.due := by omega
      have hbd : D.b0.length + l.length ≤ 9223372036854775807 := by
        have h1 := HLB.out.1
        simp [Dk.app] at h1
        omega
      obtain ⟨n, hn⟩ : ∃ n, n = D.due - 1 := ⟨_, rfl⟩
      have HN : Hid (n = D.due - 1 ∧ D.due = 0) := ⟨hn, hc⟩
      clear hn hc hdb
      go_enter Try.func159, Try.ntmps159
      go_wp2_with fail
      refine world_any (F := fun W => RD W q D kp U M ∧ w.turned W (fun k => k = q)) ⟨H.out, World.turned.refl _ _⟩ ?_
      rintro W ⟨hW1, hW2⟩
      have HW1 : Hid (RD W q D kp U M) := hW1
      have HW2 : Hid (w.turned W (fun k => k = q)) := hW2
      obtain ⟨q0, q1, q2, q3, q4, q5, q6, q7, qf⟩ := rd_cells hW1.blk
      have hqw := hW1.lt
      clear hW1 hW2
      clear q0 q1 q2 q3 q4 q5 q6 q7
      have q0 : W.cell? ⟨q, 0, none⟩ = some (.string (B D.b0)) := (rd_cells HW1.out.blk).1
      refine wp_region_until (fun w' => w'.cell? ⟨q, 0, none⟩ = some (.string (B D.b0))) 13 (by kernel_rfl) ?_
      have HS0 : ((fun w' => w'.cell? ⟨q, 0, none⟩ = some (.string (B D.b0))) : World → Prop) W.drew := q0
      refine wpUntil.takeC (i := 0) (v := (.pointer (some ⟨q, 0, none⟩))) [10, 11, 12, 13] rfl (by kernel_rfl) (by kernel_rfl) (by kernel_rfl) (by kernel_rfl) (fun _ _ _ h => h) (Or.inl ⟨by rfl, fun w hSw => ?hy0⟩) HS0 ?_
      case hy0 => (try dsimp only at hSw); go_simp
      simp only [Act.put, List.getElem_toArray, List.getElem_cons_zero, List.getElem_cons_succ, List.setIfInBounds_toArray, List.set_cons_zero, List.set_cons_succ]
      refine wpUntil.takeC (i := 1) (v := (.int .i64 0)) [12, 13] rfl (by kernel_rfl) (by kernel_rfl) (by kernel_rfl) (by kernel_rfl) (fun _ _ _ h => h) (Or.inl ⟨by rfl, fun w hSw => ?hy1⟩) HS0 ?_
      case hy1 => (try dsimp only at hSw); go_simp
      simp only [Act.put, List.getElem_toArray, List.getElem_cons_zero, List.getElem_cons_succ, List.setIfInBounds_toArray, List.set_cons_zero, List.set_cons_succ]
      refine wpUntil.takeC (i := 2) (v := (.pointer (some ⟨q, 0, none⟩))) [4, 5, 6, 7, 9, 13] rfl (by kernel_rfl) (by kernel_rfl) (by kernel_rfl) (by kernel_rfl) (fun _ _ _ h => h) (Or.inl ⟨by rfl, fun w hSw => ?hy2⟩) HS0 ?_
      case hy2 => (try dsimp only at hSw); go_simp
      simp only [Act.put, List.getElem_toArray, List.getElem_cons_zero, List.getElem_cons_succ, List.setIfInBounds_toArray, List.set_cons_zero, List.set_cons_succ]
      refine wpUntil.takeC (i := 3) (v := (.int .i64 0)) [6, 7, 9, 13] rfl (by kernel_rfl) (by kernel_rfl) (by kernel_rfl) (by kernel_rfl) (fun _ _ _ h => h) (Or.inl ⟨by rfl, fun w hSw => ?hy3⟩) HS0 ?_
      case hy3 => (try dsimp only at hSw); go_simp
      simp only [Act.put, List.getElem_toArray, List.getElem_cons_zero, List.getElem_cons_succ, List.setIfInBounds_toArray, List.set_cons_zero, List.set_cons_succ]
      refine wpUntil.takeC (i := 4) (v := (.pointer (some ⟨q, 0, none⟩))) [5, 6, 7, 9, 13] rfl (by kernel_rfl) (by kernel_rfl) (by kernel_rfl) (by kernel_rfl) (fun _ _ _ h => h) (Or.inl ⟨by rfl, fun w hSw => ?hy4⟩) HS0 ?_
      case hy4 => (try dsimp only at hSw); go_simp
      simp only [Act.put, List.getElem_toArray, List.getElem_cons_zero, List.getElem_cons_succ, List.setIfInBounds_toArray, List.set_cons_zero, List.set_cons_succ]
      refine wpUntil.takeC (i := 5) (v := (.pointer (some ⟨q, 0, none⟩))) [6, 7, 9, 13] rfl (by kernel_rfl) (by kernel_rfl) (by kernel_rfl) (by kernel_rfl) (fun _ _ _ h => h) (Or.inl ⟨by rfl, fun w hSw => ?hy5⟩) HS0 ?_
      case hy5 => (try dsimp only at hSw); go_simp
      simp only [Act.put, List.getElem_toArray, List.getElem_cons_zero, List.getElem_cons_succ, List.setIfInBounds_toArray, List.set_cons_zero, List.set_cons_succ]
      refine wpUntil.takeC (i := 6) (v := (.pointer (some ⟨q, 0, none⟩))) [7, 9, 13] rfl (by kernel_rfl) (by kernel_rfl) (by kernel_rfl) (by kernel_rfl) (fun _ _ _ h => h) (Or.inl ⟨by rfl, fun w hSw => ?hy6⟩) HS0 ?_
      case hy6 => (try dsimp only at hSw); go_simp
      simp only [Act.put, List.getElem_toArray, List.getElem_cons_zero, List.getElem_cons_succ, List.setIfInBounds_toArray, List.set_cons_zero, List.set_cons_succ]
      refine wpUntil.takeC (i := 7) (v := (.string (B D.b0))) [9, 13] rfl (by kernel_rfl) (by kernel_rfl) (by kernel_rfl) (by kernel_rfl) (fun _ _ _ h => h) (Or.inl ⟨by rfl, fun w hSw => ?hy7⟩) HS0 ?_
      case hy7 => (try dsimp only at hSw); go_simp
      simp only [Act.put, List.getElem_toArray, List.getElem_cons_zero, List.getElem_cons_succ, List.setIfInBounds_toArray, List.set_cons_zero, List.set_cons_succ]
      refine wpUntil.takeC (i := 8) (v := (.string (B l))) [9, 13] rfl (by kernel_rfl) (by kernel_rfl) (by kernel_rfl) (by kernel_rfl) (fun _ _ _ h => h) (Or.inl ⟨by rfl, fun w hSw => ?hy8⟩) HS0 ?_
      case hy8 => (try dsimp only at hSw); go_simp
      simp only [Act.put, List.getElem_toArray, List.getElem_cons_zero, List.getElem_cons_succ, List.setIfInBounds_toArray, List.set_cons_zero, List.set_cons_succ]
      refine wpUntil.takeC (i := 9) (v := (.string (B (D.b0 ++ l)))) [13] rfl (by kernel_rfl) (by kernel_rfl) (by kernel_rfl) (by kernel_rfl) (fun _ _ _ h => h) (Or.inl ⟨by rfl, fun w hSw => ?hy9⟩) HS0 ?_
      case hy9 => (try dsimp only at hSw); go_simp
      simp only [Act.put, List.getElem_toArray, List.getElem_cons_zero, List.getElem_cons_succ, List.setIfInBounds_toArray, List.set_cons_zero, List.set_cons_succ]
      refine wpUntil.takeC (i := 10) (v := (.pointer (some ⟨q, 0, none⟩))) [11, 12, 13] rfl (by kernel_rfl) (by kernel_rfl) (by kernel_rfl) (by kernel_rfl) (fun _ _ _ h => h) (Or.inl ⟨by rfl, fun w hSw => ?hy10⟩) HS0 ?_
      case hy10 => (try dsimp only at hSw); go_simp
      simp only [Act.put, List.getElem_toArray, List.getElem_cons_zero, List.getElem_cons_succ, List.setIfInBounds_toArray, List.set_cons_zero, List.set_cons_succ]
      refine wpUntil.takeC (i := 11) (v := (.pointer (some ⟨q, 0, none⟩))) [12, 13] rfl (by kernel_rfl) (by kernel_rfl) (by kernel_rfl) (by kernel_rfl) (fun _ _ _ h => h) (Or.inl ⟨by rfl, fun w hSw => ?hy11⟩) HS0 ?_
      case hy11 => (try dsimp only at hSw); go_simp
      simp only [Act.put, List.getElem_toArray, List.getElem_cons_zero, List.getElem_cons_succ, List.setIfInBounds_toArray, List.set_cons_zero, List.set_cons_succ]
      refine wpUntil.takeC (i := 12) (v := (.pointer (some ⟨q, 0, none⟩))) [13] rfl (by kernel_rfl) (by kernel_rfl) (by kernel_rfl) (by kernel_rfl) (fun _ _ _ h => h) (Or.inl ⟨by rfl, fun w hSw => ?hy12⟩) HS0 ?_
      case hy12 => (try dsimp only at hSw); go_simp
      simp only [Act.put, List.getElem_toArray, List.getElem_cons_zero, List.getElem_cons_succ, List.setIfInBounds_toArray, List.set_cons_zero, List.set_cons_succ]
      refine wpUntil.only (i := 13) rfl (by kernel_rfl) (by rfl) ?_
      simp only [Act.put, List.getElem_toArray, List.getElem_cons_zero, List.getElem_cons_succ, List.setIfInBounds_toArray, List.set_cons_zero, List.set_cons_succ]
      go_simp
      refine ⟨by kernel_rfl, ?_⟩
      refine world_any (F := fun W => RD W q (D.app 0 l) kp U M ∧ w.turned W (fun k => k = q)) ⟨rdx_drew (rdx_app0 HW1.out l), (turned_set (S := (fun k => k = q)) HW2.out rfl _).drew⟩ ?_
      rintro W ⟨hW1, hW2⟩
      have HW1 : Hid (RD W q (D.app 0 l) kp U M) := hW1
      have HW2 : Hid (w.turned W (fun k => k = q)) := hW2
      obtain ⟨q0, q1, q2, q3, q4, q5, q6, q7, qf⟩ := rd_cells hW1.blk
      have hqw := hW1.lt
      clear hW1 hW2
      go_wp2_with fail
      go_ret
      have hr : r = (true, D.app 0 l) := by
        rw [HR.out]
        have h2 : (D.app 0 l).due = 0 := HN.out.2
        unfold Dk.act
        rw [if_pos h2]
      rw [HX.out, hr]
      exact ⟨rfl, HW1.out, HW2.out⟩
    · have e1 : ((D.due : Int) == 1) = true := by rw [hc]; rfl
      have e2 : 0 < D.due := by omega
      have hbd : D.b0.length + l.length ≤ 9223372036854775807 := by
        have h1 := HLB.out.1
        simp [Dk.app] at h1
        omega
      obtain ⟨n, hn⟩ : ∃ n, n = D.due - 1 := ⟨_, rfl⟩
      have w1 : IntKind.i64.wrap ((D.due : Int) - 1) = (n : Int) := by rw [wrap_id _ (by omega) (by omega)]; omega
      have HN : Hid (n = D.due - 1 ∧ D.due = 1) := ⟨hn, hc⟩
      clear hn hc hdb
      go_enter Try.func159, Try.ntmps159
      go_wp2_with fail
      refine world_any (F := fun W => RD W q { D with due := n } kp U M ∧ w.turned W (fun k => k = q)) ⟨rdx_due H.out HN.out.1, turned_set (S := (fun k => k = q)) (World.turned.refl w _) rfl _⟩ ?_
      rintro W ⟨hW1, hW2⟩
      have HW1 : Hid (RD W q { D with due := n } kp U M) := hW1
      have HW2 : Hid (w.turned W (fun k => k = q)) := hW2
      obtain ⟨q0, q1, q2, q3, q4, q5, q6, q7, qf⟩ := rd_cells hW1.blk
      have hqw := hW1.lt
      clear hW1 hW2
      clear q0 q1 q2 q3 q4 q5 q6 q7
      have q0 : W.cell? ⟨q, 0, none⟩ = some (.string (B D.b0)) := (rd_cells HW1.out.blk).1
      refine wp_region_until (fun w' => w'.cell? ⟨q, 0, none⟩ = some (.string (B D.b0))) 13 (by kernel_rfl) ?_
      have HS0 : ((fun w' => w'.cell? ⟨q, 0, none⟩ = some (.string (B D.b0))) : World → Prop) W.drew := q0
      refine wpUntil.takeC (i := 0) (v := (.pointer (some ⟨q, 0, none⟩))) [10, 11, 12, 13] rfl (by kernel_rfl) (by kernel_rfl) (by kernel_rfl) (by kernel_rfl) (fun _ _ _ h => h) (Or.inl ⟨by rfl, fun w hSw => ?hy0⟩) HS0 ?_
      case hy0 => (try dsimp only at hSw); go_simp
      simp only [Act.put, List.getElem_toArray, List.getElem_cons_zero, List.getElem_cons_succ, List.setIfInBounds_toArray, List.set_cons_zero, List.set_cons_succ]
      refine wpUntil.takeC (i := 1) (v := (.int .i64 0)) [12, 13] rfl (by kernel_rfl) (by kernel_rfl) (by kernel_rfl) (by kernel_rfl) (fun _ _ _ h => h) (Or.inl ⟨by rfl, fun w hSw => ?hy1⟩) HS0 ?_
      case hy1 => (try dsimp only at hSw); go_simp
      simp only [Act.put, List.getElem_toArray, List.getElem_cons_zero, List.getElem_cons_succ, List.setIfInBounds_toArray, List.set_cons_zero, List.set_cons_succ]
      refine wpUntil.takeC (i := 2) (v := (.pointer (some ⟨q, 0, none⟩))) [4, 5, 6, 7, 9, 13] rfl (by kernel_rfl) (by kernel_rfl) (by kernel_rfl) (by kernel_rfl) (fun _ _ _ h => h) (Or.inl ⟨by rfl, fun w hSw => ?hy2⟩) HS0 ?_
      case hy2 => (try dsimp only at hSw); go_simp
      simp only [Act.put, List.getElem_toArray, List.getElem_cons_zero, List.getElem_cons_succ, List.setIfInBounds_toArray, List.set_cons_zero, List.set_cons_succ]
      refine wpUntil.takeC (i := 3) (v := (.int .i64 0)) [6, 7, 9, 13] rfl (by kernel_rfl) (by kernel_rfl) (by kernel_rfl) (by kernel_rfl) (fun _ _ _ h => h) (Or.inl ⟨by rfl, fun w hSw => ?hy3⟩) HS0 ?_
      case hy3 => (try dsimp only at hSw); go_simp
      simp only [Act.put, List.getElem_toArray, List.getElem_cons_zero, List.getElem_cons_succ, List.setIfInBounds_toArray, List.set_cons_zero, List.set_cons_succ]
      refine wpUntil.takeC (i := 4) (v := (.pointer (some ⟨q, 0, none⟩))) [5, 6, 7, 9, 13] rfl (by kernel_rfl) (by kernel_rfl) (by kernel_rfl) (by kernel_rfl) (fun _ _ _ h => h) (Or.inl ⟨by rfl, fun w hSw => ?hy4⟩) HS0 ?_
      case hy4 => (try dsimp only at hSw); go_simp
      simp only [Act.put, List.getElem_toArray, List.getElem_cons_zero, List.getElem_cons_succ, List.setIfInBounds_toArray, List.set_cons_zero, List.set_cons_succ]
      refine wpUntil.takeC (i := 5) (v := (.pointer (some ⟨q, 0, none⟩))) [6, 7, 9, 13] rfl (by kernel_rfl) (by kernel_rfl) (by kernel_rfl) (by kernel_rfl) (fun _ _ _ h => h) (Or.inl ⟨by rfl, fun w hSw => ?hy5⟩) HS0 ?_
      case hy5 => (try dsimp only at hSw); go_simp
      simp only [Act.put, List.getElem_toArray, List.getElem_cons_zero, List.getElem_cons_succ, List.setIfInBounds_toArray, List.set_cons_zero, List.set_cons_succ]
      refine wpUntil.takeC (i := 6) (v := (.pointer (some ⟨q, 0, none⟩))) [7, 9, 13] rfl (by kernel_rfl) (by kernel_rfl) (by kernel_rfl) (by kernel_rfl) (fun _ _ _ h => h) (Or.inl ⟨by rfl, fun w hSw => ?hy6⟩) HS0 ?_
      case hy6 => (try dsimp only at hSw); go_simp
      simp only [Act.put, List.getElem_toArray, List.getElem_cons_zero, List.getElem_cons_succ, List.setIfInBounds_toArray, List.set_cons_zero, List.set_cons_succ]
      refine wpUntil.takeC (i := 7) (v := (.string (B D.b0))) [9, 13] rfl (by kernel_rfl) (by kernel_rfl) (by kernel_rfl) (by kernel_rfl) (fun _ _ _ h => h) (Or.inl ⟨by rfl, fun w hSw => ?hy7⟩) HS0 ?_
      case hy7 => (try dsimp only at hSw); go_simp
      simp only [Act.put, List.getElem_toArray, List.getElem_cons_zero, List.getElem_cons_succ, List.setIfInBounds_toArray, List.set_cons_zero, List.set_cons_succ]
      refine wpUntil.takeC (i := 8) (v := (.string (B l))) [9, 13] rfl (by kernel_rfl) (by kernel_rfl) (by kernel_rfl) (by kernel_rfl) (fun _ _ _ h => h) (Or.inl ⟨by rfl, fun w hSw => ?hy8⟩) HS0 ?_
      case hy8 => (try dsimp only at hSw); go_simp
      simp only [Act.put, List.getElem_toArray, List.getElem_cons_zero, List.getElem_cons_succ, List.setIfInBounds_toArray, List.set_cons_zero, List.set_cons_succ]
      refine wpUntil.takeC (i := 9) (v := (.string (B (D.b0 ++ l)))) [13] rfl (by kernel_rfl) (by kernel_rfl) (by kernel_rfl) (by kernel_rfl) (fun _ _ _ h => h) (Or.inl ⟨by rfl, fun w hSw => ?hy9⟩) HS0 ?_
      case hy9 => (try dsimp only at hSw); go_simp
      simp only [Act.put, List.getElem_toArray, List.getElem_cons_zero, List.getElem_cons_succ, List.setIfInBounds_toArray, List.set_cons_zero, List.set_cons_succ]
      refine wpUntil.takeC (i := 10) (v := (.pointer (some ⟨q, 0, none⟩))) [11, 12, 13] rfl (by kernel_rfl) (by kernel_rfl) (by kernel_rfl) (by kernel_rfl) (fun _ _ _ h => h) (Or.inl ⟨by rfl, fun w hSw => ?hy10⟩) HS0 ?_
      case hy10 => (try dsimp only at hSw); go_simp
      simp only [Act.put, List.getElem_toArray, List.getElem_cons_zero, List.getElem_cons_succ, List.setIfInBounds_toArray, List.set_cons_zero, List.set_cons_succ]
      refine wpUntil.takeC (i := 11) (v := (.pointer (some ⟨q, 0, none⟩))) [12, 13] rfl (by kernel_rfl) (by kernel_rfl) (by kernel_rfl) (by kernel_rfl) (fun _ _ _ h => h) (Or.inl ⟨by rfl, fun w hSw => ?hy11⟩) HS0 ?_
      case hy11 => (try dsimp only at hSw); go_simp
      simp only [Act.put, List.getElem_toArray, List.getElem_cons_zero, List.getElem_cons_succ, List.setIfInBounds_toArray, List.set_cons_zero, List.set_cons_succ]
      refine wpUntil.takeC (i := 12) (v := (.pointer (some ⟨q, 0, none⟩))) [13] rfl (by kernel_rfl) (by kernel_rfl) (by kernel_rfl) (by kernel_rfl) (fun _ _ _ h => h) (Or.inl ⟨by rfl, fun w hSw => ?hy12⟩) HS0 ?_
      case hy12 => (try dsimp only at hSw); go_simp
      simp only [Act.put, List.getElem_toArray, List.getElem_cons_zero, List.getElem_cons_succ, List.setIfInBounds_toArray, List.set_cons_zero, List.set_cons_succ]
      refine wpUntil.only (i := 13) rfl (by kernel_rfl) (by rfl) ?_
      simp only [Act.put, List.getElem_toArray, List.getElem_cons_zero, List.getElem_cons_succ, List.setIfInBounds_toArray, List.set_cons_zero, List.set_cons_succ]
      go_simp
      refine ⟨by kernel_rfl, ?_⟩
      refine world_any (F := fun W => RD W q (({ D with due := n } : Dk).app 0 l) kp U M ∧ w.turned W (fun k => k = q)) ⟨rdx_drew (rdx_app0 HW1.out l), (turned_set (S := (fun k => k = q)) HW2.out rfl _).drew⟩ ?_
      rintro W ⟨hW1, hW2⟩
      have HW1 : Hid (RD W q (({ D with due := n } : Dk).app 0 l) kp U M) := hW1
      have HW2 : Hid (w.turned W (fun k => k = q)) := hW2
      obtain ⟨q0, q1, q2, q3, q4, q5, q6, q7, qf⟩ := rd_cells hW1.blk
      have hqw := hW1.lt
      clear hW1 hW2
      go_wp2_with fail
      refine (refCrash W q _ kp U M HW1.out (by have := HLB.out.1; exact this) (by have := HLB.out.2; exact this) kp H.out.kb).mono ?_
      rintro e w9 ⟨rfl, hd9, ht9⟩
      have HD9 : Hid (RD w9 q ((({ D with due := n } : Dk).app 0 l).crash kp) kp 0 M) := hd9
      have HT9 : Hid (w.turned w9 (fun k => k = q)) := HW2.out.trans ht9 fun _ _ h => h
      clear hd9 ht9
      go_wp2_with fail
      go_ret
      have hr : r = (false, (({ D with due := n } : Dk).app 0 l).crash kp) := by
        rw [HR.out, H.out.kq (by have := HN.out.2; omega)]
        have h2 : (D.app 0 l).due = 1 := HN.out.2
        unfold Dk.act
        rw [if_neg (by omega), if_pos h2]
        rfl
      rw [HX.out, hr]
      exact ⟨rfl, HD9.out, HT9.out⟩
    · have e1 : ((D.due : Int) == 1) = false := by rw [beq_eq_false_iff_ne]; omega
      have e2 : 0 < D.due := by omega
      have hbd : D.b0.length + l.length ≤ 9223372036854775807 := by
        have h1 := HLB.out.1
        simp [Dk.app] at h1
        omega
      obtain ⟨n, hn⟩ : ∃ n, n = D.due - 1 := ⟨_, rfl⟩
      have w1 : IntKind.i64.wrap ((D.due : Int) - 1) = (n : Int) := by rw [wrap_id _ (by omega) (by omega)]; omega
      have HN : Hid (n = D.due - 1 ∧ 2 ≤ D.due) := ⟨hn, hc⟩
      clear hn hc hdb
      go_enter Try.func159, Try.ntmps159
      go_wp2_with fail
      refine world_any (F := fun W => RD W q { D with due := n } kp U M ∧ w.turned W (fun k => k = q)) ⟨rdx_due H.out HN.out.1, turned_set (S := (fun k => k = q)) (World.turned.refl w _) rfl _⟩ ?_
      rintro W ⟨hW1, hW2⟩
      have HW1 : Hid (RD W q { D with due := n } kp U M) := hW1
      have HW2 : Hid (w.turned W (fun k => k = q)) := hW2
      obtain ⟨q0, q1, q2, q3, q4, q5, q6, q7, qf⟩ := rd_cells hW1.blk
      have hqw := hW1.lt
      clear hW1 hW2
      clear q0 q1 q2 q3 q4 q5 q6 q7
      have q0 : W.cell? ⟨q, 0, none⟩ = some (.string (B D.b0)) := (rd_cells HW1.out.blk).1
      refine wp_region_until (fun w' => w'.cell? ⟨q, 0, none⟩ = some (.string (B D.b0))) 13 (by kernel_rfl) ?_
      have HS0 : ((fun w' => w'.cell? ⟨q, 0, none⟩ = some (.string (B D.b0))) : World → Prop) W.drew := q0
      refine wpUntil.takeC (i := 0) (v := (.pointer (some ⟨q, 0, none⟩))) [10, 11, 12, 13] rfl (by kernel_rfl) (by kernel_rfl) (by kernel_rfl) (by kernel_rfl) (fun _ _ _ h => h) (Or.inl ⟨by rfl, fun w hSw => ?hy0⟩) HS0 ?_
      case hy0 => (try dsimp only at hSw); go_simp
      simp only [Act.put, List.getElem_toArray, List.getElem_cons_zero, List.getElem_cons_succ, List.setIfInBounds_toArray, List.set_cons_zero, List.set_cons_succ]
      refine wpUntil.takeC (i := 1) (v := (.int .i64 0)) [12, 13] rfl (by kernel_rfl) (by kernel_rfl) (by kernel_rfl) (by kernel_rfl) (fun _ _ _ h => h) (Or.inl ⟨by rfl, fun w hSw => ?hy1⟩) HS0 ?_
      case hy1 => (try dsimp only at hSw); go_simp
      simp only [Act.put, List.getElem_toArray, List.getElem_cons_zero, List.getElem_cons_succ, List.setIfInBounds_toArray, List.set_cons_zero, List.set_cons_succ]
      refine wpUntil.takeC (i := 2) (v := (.pointer (some ⟨q, 0, none⟩))) [4, 5, 6, 7, 9, 13] rfl (by kernel_rfl) (by kernel_rfl) (by kernel_rfl) (by kernel_rfl) (fun _ _ _ h => h) (Or.inl ⟨by rfl, fun w hSw => ?hy2⟩) HS0 ?_
      case hy2 => (try dsimp only at hSw); go_simp
      simp only [Act.put, List.getElem_toArray, List.getElem_cons_zero, List.getElem_cons_succ, List.setIfInBounds_toArray, List.set_cons_zero, List.set_cons_succ]
      refine wpUntil.takeC (i := 3) (v := (.int .i64 0)) [6, 7, 9, 13] rfl (by kernel_rfl) (by kernel_rfl) (by kernel_rfl) (by kernel_rfl) (fun _ _ _ h => h) (Or.inl ⟨by rfl, fun w hSw => ?hy3⟩) HS0 ?_
      case hy3 => (try dsimp only at hSw); go_simp
      simp only [Act.put, List.getElem_toArray, List.getElem_cons_zero, List.getElem_cons_succ, List.setIfInBounds_toArray, List.set_cons_zero, List.set_cons_succ]
      refine wpUntil.takeC (i := 4) (v := (.pointer (some ⟨q, 0, none⟩))) [5, 6, 7, 9, 13] rfl (by kernel_rfl) (by kernel_rfl) (by kernel_rfl) (by kernel_rfl) (fun _ _ _ h => h) (Or.inl ⟨by rfl, fun w hSw => ?hy4⟩) HS0 ?_
      case hy4 => (try dsimp only at hSw); go_simp
      simp only [Act.put, List.getElem_toArray, List.getElem_cons_zero, List.getElem_cons_succ, List.setIfInBounds_toArray, List.set_cons_zero, List.set_cons_succ]
      refine wpUntil.takeC (i := 5) (v := (.pointer (some ⟨q, 0, none⟩))) [6, 7, 9, 13] rfl (by kernel_rfl) (by kernel_rfl) (by kernel_rfl) (by kernel_rfl) (fun _ _ _ h => h) (Or.inl ⟨by rfl, fun w hSw => ?hy5⟩) HS0 ?_
      case hy5 => (try dsimp only at hSw); go_simp
      simp only [Act.put, List.getElem_toArray, List.getElem_cons_zero, List.getElem_cons_succ, List.setIfInBounds_toArray, List.set_cons_zero, List.set_cons_succ]
      refine wpUntil.takeC (i := 6) (v := (.pointer (some ⟨q, 0, none⟩))) [7, 9, 13] rfl (by kernel_rfl) (by kernel_rfl) (by kernel_rfl) (by kernel_rfl) (fun _ _ _ h => h) (Or.inl ⟨by rfl, fun w hSw => ?hy6⟩) HS0 ?_
      case hy6 => (try dsimp only at hSw); go_simp
      simp only [Act.put, List.getElem_toArray, List.getElem_cons_zero, List.getElem_cons_succ, List.setIfInBounds_toArray, List.set_cons_zero, List.set_cons_succ]
      refine wpUntil.takeC (i := 7) (v := (.string (B D.b0))) [9, 13] rfl (by kernel_rfl) (by kernel_rfl) (by kernel_rfl) (by kernel_rfl) (fun _ _ _ h => h) (Or.inl ⟨by rfl, fun w hSw => ?hy7⟩) HS0 ?_
      case hy7 => (try dsimp only at hSw); go_simp
      simp only [Act.put, List.getElem_toArray, List.getElem_cons_zero, List.getElem_cons_succ, List.setIfInBounds_toArray, List.set_cons_zero, List.set_cons_succ]
      refine wpUntil.takeC (i := 8) (v := (.string (B l))) [9, 13] rfl (by kernel_rfl) (by kernel_rfl) (by kernel_rfl) (by kernel_rfl) (fun _ _ _ h => h) (Or.inl ⟨by rfl, fun w hSw => ?hy8⟩) HS0 ?_
      case hy8 => (try dsimp only at hSw); go_simp
      simp only [Act.put, List.getElem_toArray, List.getElem_cons_zero, List.getElem_cons_succ, List.setIfInBounds_toArray, List.set_cons_zero, List.set_cons_succ]
      refine wpUntil.takeC (i := 9) (v := (.string (B (D.b0 ++ l)))) [13] rfl (by kernel_rfl) (by kernel_rfl) (by kernel_rfl) (by kernel_rfl) (fun _ _ _ h => h) (Or.inl ⟨by rfl, fun w hSw => ?hy9⟩) HS0 ?_
      case hy9 => (try dsimp only at hSw); go_simp
      simp only [Act.put, List.getElem_toArray, List.getElem_cons_zero, List.getElem_cons_succ, List.setIfInBounds_toArray, List.set_cons_zero, List.set_cons_succ]
      refine wpUntil.takeC (i := 10) (v := (.pointer (some ⟨q, 0, none⟩))) [11, 12, 13] rfl (by kernel_rfl) (by kernel_rfl) (by kernel_rfl) (by kernel_rfl) (fun _ _ _ h => h) (Or.inl ⟨by rfl, fun w hSw => ?hy10⟩) HS0 ?_
      case hy10 => (try dsimp only at hSw); go_simp
      simp only [Act.put, List.getElem_toArray, List.getElem_cons_zero, List.getElem_cons_succ, List.setIfInBounds_toArray, List.set_cons_zero, List.set_cons_succ]
      refine wpUntil.takeC (i := 11) (v := (.pointer (some ⟨q, 0, none⟩))) [12, 13] rfl (by kernel_rfl) (by kernel_rfl) (by kernel_rfl) (by kernel_rfl) (fun _ _ _ h => h) (Or.inl ⟨by rfl, fun w hSw => ?hy11⟩) HS0 ?_
      case hy11 => (try dsimp only at hSw); go_simp
      simp only [Act.put, List.getElem_toArray, List.getElem_cons_zero, List.getElem_cons_succ, List.setIfInBounds_toArray, List.set_cons_zero, List.set_cons_succ]
      refine wpUntil.takeC (i := 12) (v := (.pointer (some ⟨q, 0, none⟩))) [13] rfl (by kernel_rfl) (by kernel_rfl) (by kernel_rfl) (by kernel_rfl) (fun _ _ _ h => h) (Or.inl ⟨by rfl, fun w hSw => ?hy12⟩) HS0 ?_
      case hy12 => (try dsimp only at hSw); go_simp
      simp only [Act.put, List.getElem_toArray, List.getElem_cons_zero, List.getElem_cons_succ, List.setIfInBounds_toArray, List.set_cons_zero, List.set_cons_succ]
      refine wpUntil.only (i := 13) rfl (by kernel_rfl) (by rfl) ?_
      simp only [Act.put, List.getElem_toArray, List.getElem_cons_zero, List.getElem_cons_succ, List.setIfInBounds_toArray, List.set_cons_zero, List.set_cons_succ]
      go_simp
      refine ⟨by kernel_rfl, ?_⟩
      refine world_any (F := fun W => RD W q (({ D with due := n } : Dk).app 0 l) kp U M ∧ w.turned W (fun k => k = q)) ⟨rdx_drew (rdx_app0 HW1.out l), (turned_set (S := (fun k => k = q)) HW2.out rfl _).drew⟩ ?_
      rintro W ⟨hW1, hW2⟩
      have HW1 : Hid (RD W q (({ D with due := n } : Dk).app 0 l) kp U M) := hW1
      have HW2 : Hid (w.turned W (fun k => k = q)) := hW2
      obtain ⟨q0, q1, q2, q3, q4, q5, q6, q7, qf⟩ := rd_cells hW1.blk
      have hqw := hW1.lt
      clear hW1 hW2
      go_wp2_with fail
      go_ret
      have hr : r = (true, ({ D with due := n } : Dk).app 0 l) := by
        rw [HR.out]
        have h2 : 2 ≤ (D.app 0 l).due := HN.out.2
        unfold Dk.act
        rw [if_neg (by omega), if_neg (by omega), HN.out.1]
        rfl
      rw [HX.out, hr]
      exact ⟨rfl, HW1.out, HW2.out⟩
  · rcases hc3 with hc | hc | hc
    · have e1 : ((D.due : Int) == 1) = false := by rw [hc]; rfl
      have e2 : ¬ 0 < D.due := by omega
      have hbd : D.b1.length + l.length ≤ 9223372036854775807 := by
        have h1 := HLB.out.2
        simp [Dk.app] at h1
        omega
      obtain ⟨n, hn⟩ : ∃ n, n = D.due - 1 := ⟨_, rfl⟩
      have HN : Hid (n = D.due - 1 ∧ D.due = 0) := ⟨hn, hc⟩
      clear hn hc hdb
      go_enter Try.func159, Try.ntmps159
      go_wp2_with fail
      refine world_any (F := fun W => RD W q D kp U M ∧ w.turned W (fun k => k = q)) ⟨H.out, World.turned.refl _ _⟩ ?_
      rintro W ⟨hW1, hW2⟩
      have HW1 : Hid (RD W q D kp U M) := hW1
      have HW2 : Hid (w.turned W (fun k => k = q)) := hW2
      obtain ⟨q0, q1, q2, q3, q4, q5, q6, q7, qf⟩ := rd_cells hW1.blk
      have hqw := hW1.lt
      clear hW1 hW2
      clear q0 q1 q2 q3 q4 q5 q6 q7
      have q1 : W.cell? ⟨q, 1, none⟩ = some (.string (B D.b1)) := (rd_cells HW1.out.blk).2.1
      refine wp_region_until (fun w' => w'.cell? ⟨q, 1, none⟩ = some (.string (B D.b1))) 13 (by kernel_rfl) ?_
      have HS0 : ((fun w' => w'.cell? ⟨q, 1, none⟩ = some (.string (B D.b1))) : World → Prop) W.drew := q1
      refine wpUntil.takeC (i := 0) (v := (.pointer (some ⟨q, 0, none⟩))) [10, 11, 12, 13] rfl (by kernel_rfl) (by kernel_rfl) (by kernel_rfl) (by kernel_rfl) (fun _ _ _ h => h) (Or.inl ⟨by rfl, fun w hSw => ?hy0⟩) HS0 ?_
      case hy0 => (try dsimp only at hSw); go_simp
      simp only [Act.put, List.getElem_toArray, List.getElem_cons_zero, List.getElem_cons_succ, List.setIfInBounds_toArray, List.set_cons_zero, List.set_cons_succ]
      refine wpUntil.takeC (i := 1) (v := (.int .i64 1)) [12, 13] rfl (by kernel_rfl) (by kernel_rfl) (by kernel_rfl) (by kernel_rfl) (fun _ _ _ h => h) (Or.inl ⟨by rfl, fun w hSw => ?hy1⟩) HS0 ?_
      case hy1 => (try dsimp only at hSw); go_simp
      simp only [Act.put, List.getElem_toArray, List.getElem_cons_zero, List.getElem_cons_succ, List.setIfInBounds_toArray, List.set_cons_zero, List.set_cons_succ]
      refine wpUntil.takeC (i := 2) (v := (.pointer (some ⟨q, 0, none⟩))) [4, 5, 6, 7, 9, 13] rfl (by kernel_rfl) (by kernel_rfl) (by kernel_rfl) (by kernel_rfl) (fun _ _ _ h => h) (Or.inl ⟨by rfl, fun w hSw => ?hy2⟩) HS0 ?_
      case hy2 => (try dsimp only at hSw); go_simp
      simp only [Act.put, List.getElem_toArray, List.getElem_cons_zero, List.getElem_cons_succ, List.setIfInBounds_toArray, List.set_cons_zero, List.set_cons_succ]
      refine wpUntil.takeC (i := 3) (v := (.int .i64 1)) [6, 7, 9, 13] rfl (by kernel_rfl) (by kernel_rfl) (by kernel_rfl) (by kernel_rfl) (fun _ _ _ h => h) (Or.inl ⟨by rfl, fun w hSw => ?hy3⟩) HS0 ?_
      case hy3 => (try dsimp only at hSw); go_simp
      simp only [Act.put, List.getElem_toArray, List.getElem_cons_zero, List.getElem_cons_succ, List.setIfInBounds_toArray, List.set_cons_zero, List.set_cons_succ]
      refine wpUntil.takeC (i := 4) (v := (.pointer (some ⟨q, 0, none⟩))) [5, 6, 7, 9, 13] rfl (by kernel_rfl) (by kernel_rfl) (by kernel_rfl) (by kernel_rfl) (fun _ _ _ h => h) (Or.inl ⟨by rfl, fun w hSw => ?hy4⟩) HS0 ?_
      case hy4 => (try dsimp only at hSw); go_simp
      simp only [Act.put, List.getElem_toArray, List.getElem_cons_zero, List.getElem_cons_succ, List.setIfInBounds_toArray, List.set_cons_zero, List.set_cons_succ]
      refine wpUntil.takeC (i := 5) (v := (.pointer (some ⟨q, 0, none⟩))) [6, 7, 9, 13] rfl (by kernel_rfl) (by kernel_rfl) (by kernel_rfl) (by kernel_rfl) (fun _ _ _ h => h) (Or.inl ⟨by rfl, fun w hSw => ?hy5⟩) HS0 ?_
      case hy5 => (try dsimp only at hSw); go_simp
      simp only [Act.put, List.getElem_toArray, List.getElem_cons_zero, List.getElem_cons_succ, List.setIfInBounds_toArray, List.set_cons_zero, List.set_cons_succ]
      refine wpUntil.takeC (i := 6) (v := (.pointer (some ⟨q, 1, none⟩))) [7, 9, 13] rfl (by kernel_rfl) (by kernel_rfl) (by kernel_rfl) (by kernel_rfl) (fun _ _ _ h => h) (Or.inl ⟨by rfl, fun w hSw => ?hy6⟩) HS0 ?_
      case hy6 => (try dsimp only at hSw); go_simp
      simp only [Act.put, List.getElem_toArray, List.getElem_cons_zero, List.getElem_cons_succ, List.setIfInBounds_toArray, List.set_cons_zero, List.set_cons_succ]
      refine wpUntil.takeC (i := 7) (v := (.string (B D.b1))) [9, 13] rfl (by kernel_rfl) (by kernel_rfl) (by kernel_rfl) (by kernel_rfl) (fun _ _ _ h => h) (Or.inl ⟨by rfl, fun w hSw => ?hy7⟩) HS0 ?_
      case hy7 => (try dsimp only at hSw); go_simp
      simp only [Act.put, List.getElem_toArray, List.getElem_cons_zero, List.getElem_cons_succ, List.setIfInBounds_toArray, List.set_cons_zero, List.set_cons_succ]
      refine wpUntil.takeC (i := 8) (v := (.string (B l))) [9, 13] rfl (by kernel_rfl) (by kernel_rfl) (by kernel_rfl) (by kernel_rfl) (fun _ _ _ h => h) (Or.inl ⟨by rfl, fun w hSw => ?hy8⟩) HS0 ?_
      case hy8 => (try dsimp only at hSw); go_simp
      simp only [Act.put, List.getElem_toArray, List.getElem_cons_zero, List.getElem_cons_succ, List.setIfInBounds_toArray, List.set_cons_zero, List.set_cons_succ]
      refine wpUntil.takeC (i := 9) (v := (.string (B (D.b1 ++ l)))) [13] rfl (by kernel_rfl) (by kernel_rfl) (by kernel_rfl) (by kernel_rfl) (fun _ _ _ h => h) (Or.inl ⟨by rfl, fun w hSw => ?hy9⟩) HS0 ?_
      case hy9 => (try dsimp only at hSw); go_simp
      simp only [Act.put, List.getElem_toArray, List.getElem_cons_zero, List.getElem_cons_succ, List.setIfInBounds_toArray, List.set_cons_zero, List.set_cons_succ]
      refine wpUntil.takeC (i := 10) (v := (.pointer (some ⟨q, 0, none⟩))) [11, 12, 13] rfl (by kernel_rfl) (by kernel_rfl) (by kernel_rfl) (by kernel_rfl) (fun _ _ _ h => h) (Or.inl ⟨by rfl, fun w hSw => ?hy10⟩) HS0 ?_
      case hy10 => (try dsimp only at hSw); go_simp
      simp only [Act.put, List.getElem_toArray, List.getElem_cons_zero, List.getElem_cons_succ, List.setIfInBounds_toArray, List.set_cons_zero, List.set_cons_succ]
      refine wpUntil.takeC (i := 11) (v := (.pointer (some ⟨q, 0, none⟩))) [12, 13] rfl (by kernel_rfl) (by kernel_rfl) (by kernel_rfl) (by kernel_rfl) (fun _ _ _ h => h) (Or.inl ⟨by rfl, fun w hSw => ?hy11⟩) HS0 ?_
      case hy11 => (try dsimp only at hSw); go_simp
      simp only [Act.put, List.getElem_toArray, List.getElem_cons_zero, List.getElem_cons_succ, List.setIfInBounds_toArray, List.set_cons_zero, List.set_cons_succ]
      refine wpUntil.takeC (i := 12) (v := (.pointer (some ⟨q, 1, none⟩))) [13] rfl (by kernel_rfl) (by kernel_rfl) (by kernel_rfl) (by kernel_rfl) (fun _ _ _ h => h) (Or.inl ⟨by rfl, fun w hSw => ?hy12⟩) HS0 ?_
      case hy12 => (try dsimp only at hSw); go_simp
      simp only [Act.put, List.getElem_toArray, List.getElem_cons_zero, List.getElem_cons_succ, List.setIfInBounds_toArray, List.set_cons_zero, List.set_cons_succ]
      refine wpUntil.only (i := 13) rfl (by kernel_rfl) (by rfl) ?_
      simp only [Act.put, List.getElem_toArray, List.getElem_cons_zero, List.getElem_cons_succ, List.setIfInBounds_toArray, List.set_cons_zero, List.set_cons_succ]
      go_simp
      refine ⟨by kernel_rfl, ?_⟩
      refine world_any (F := fun W => RD W q (D.app 1 l) kp U M ∧ w.turned W (fun k => k = q)) ⟨rdx_drew (rdx_app1 HW1.out l), (turned_set (S := (fun k => k = q)) HW2.out rfl _).drew⟩ ?_
      rintro W ⟨hW1, hW2⟩
      have HW1 : Hid (RD W q (D.app 1 l) kp U M) := hW1
      have HW2 : Hid (w.turned W (fun k => k = q)) := hW2
      obtain ⟨q0, q1, q2, q3, q4, q5, q6, q7, qf⟩ := rd_cells hW1.blk
      have hqw := hW1.lt
      clear hW1 hW2
      go_wp2_with fail
      go_ret
      have hr : r = (true, D.app 1 l) := by
        rw [HR.out]
        have h2 : (D.app 1 l).due = 0 := HN.out.2
        unfold Dk.act
        rw [if_pos h2]
      rw [HX.out, hr]
      exact ⟨rfl, HW1.out, HW2.out⟩
    · have e1 : ((D.due : Int) == 1) = true := by rw [hc]; rfl
      have e2 : 0 < D.due := by omega
      have hbd : D.b1.length + l.length ≤ 9223372036854775807 := by
        have h1 := HLB.out.2
        simp [Dk.app] at h1
        omega
      obtain ⟨n, hn⟩ : ∃ n, n = D.due - 1 := ⟨_, rfl⟩
      have w1 : IntKind.i64.wrap ((D.due : Int) - 1) = (n : Int) := by rw [wrap_id _ (by omega) (by omega)]; omega
      have HN : Hid (n = D.due - 1 ∧ D.due = 1) := ⟨hn, hc⟩
      clear hn hc hdb
      go_enter Try.func159, Try.ntmps159
      go_wp2_with fail
      refine world_any (F := fun W => RD W q { D with due := n } kp U M ∧ w.turned W (fun k => k = q)) ⟨rdx_due H.out HN.out.1, turned_set (S := (fun k => k = q)) (World.turned.refl w _) rfl _⟩ ?_
      rintro W ⟨hW1, hW2⟩
      have HW1 : Hid (RD W q { D with due := n } kp U M) := hW1
      have HW2 : Hid (w.turned W (fun k => k = q)) := hW2
      obtain ⟨q0, q1, q2, q3, q4, q5, q6, q7, qf⟩ := rd_cells hW1.blk
      have hqw := hW1.lt
      clear hW1 hW2
      clear q0 q1 q2 q3 q4 q5 q6 q7
      have q1 : W.cell? ⟨q, 1, none⟩ = some (.string (B D.b1)) := (rd_cells HW1.out.blk).2.1
      refine wp_region_until (fun w' => w'.cell? ⟨q, 1, none⟩ = some (.string (B D.b1))) 13 (by kernel_rfl) ?_
      have HS0 : ((fun w' => w'.cell? ⟨q, 1, none⟩ = some (.string (B D.b1))) : World → Prop) W.drew := q1
      refine wpUntil.takeC (i := 0) (v := (.pointer (some ⟨q, 0, none⟩))) [10, 11, 12, 13] rfl (by kernel_rfl) (by kernel_rfl) (by kernel_rfl) (by kernel_rfl) (fun _ _ _ h => h) (Or.inl ⟨by rfl, fun w hSw => ?hy0⟩) HS0 ?_
      case hy0 => (try dsimp only at hSw); go_simp
      simp only [Act.put, List.getElem_toArray, List.getElem_cons_zero, List.getElem_cons_succ, List.setIfInBounds_toArray, List.set_cons_zero, List.set_cons_succ]
      refine wpUntil.takeC (i := 1) (v := (.int .i64 1)) [12, 13] rfl (by kernel_rfl) (by kernel_rfl) (by kernel_rfl) (by kernel_rfl) (fun _ _ _ h => h) (Or.inl ⟨by rfl, fun w hSw => ?hy1⟩) HS0 ?_
      case hy1 => (try dsimp only at hSw); go_simp
      simp only [Act.put, List.getElem_toArray, List.getElem_cons_zero, List.getElem_cons_succ, List.setIfInBounds_toArray, List.set_cons_zero, List.set_cons_succ]
      refine wpUntil.takeC (i := 2) (v := (.pointer (some ⟨q, 0, none⟩))) [4, 5, 6, 7, 9, 13] rfl (by kernel_rfl) (by kernel_rfl) (by kernel_rfl) (by kernel_rfl) (fun _ _ _ h => h) (Or.inl ⟨by rfl, fun w hSw => ?hy2⟩) HS0 ?_
      case hy2 => (try dsimp only at hSw); go_simp
      simp only [Act.put, List.getElem_toArray, List.getElem_cons_zero, List.getElem_cons_succ, List.setIfInBounds_toArray, List.set_cons_zero, List.set_cons_succ]
      refine wpUntil.takeC (i := 3) (v := (.int .i64 1)) [6, 7, 9, 13] rfl (by kernel_rfl) (by kernel_rfl) (by kernel_rfl) (by kernel_rfl) (fun _ _ _ h => h) (Or.inl ⟨by rfl, fun w hSw => ?hy3⟩) HS0 ?_
      case hy3 => (try dsimp only at hSw); go_simp
      simp only [Act.put, List.getElem_toArray, List.getElem_cons_zero, List.getElem_cons_succ, List.setIfInBounds_toArray, List.set_cons_zero, List.set_cons_succ]
      refine wpUntil.takeC (i := 4) (v := (.pointer (some ⟨q, 0, none⟩))) [5, 6, 7, 9, 13] rfl (by kernel_rfl) (by kernel_rfl) (by kernel_rfl) (by kernel_rfl) (fun _ _ _ h => h) (Or.inl ⟨by rfl, fun w hSw => ?hy4⟩) HS0 ?_
      case hy4 => (try dsimp only at hSw); go_simp
      simp only [Act.put, List.getElem_toArray, List.getElem_cons_zero, List.getElem_cons_succ, List.setIfInBounds_toArray, List.set_cons_zero, List.set_cons_succ]
      refine wpUntil.takeC (i := 5) (v := (.pointer (some ⟨q, 0, none⟩))) [6, 7, 9, 13] rfl (by kernel_rfl) (by kernel_rfl) (by kernel_rfl) (by kernel_rfl) (fun _ _ _ h => h) (Or.inl ⟨by rfl, fun w hSw => ?hy5⟩) HS0 ?_
      case hy5 => (try dsimp only at hSw); go_simp
      simp only [Act.put, List.getElem_toArray, List.getElem_cons_zero, List.getElem_cons_succ, List.setIfInBounds_toArray, List.set_cons_zero, List.set_cons_succ]
      refine wpUntil.takeC (i := 6) (v := (.pointer (some ⟨q, 1, none⟩))) [7, 9, 13] rfl (by kernel_rfl) (by kernel_rfl) (by kernel_rfl) (by kernel_rfl) (fun _ _ _ h => h) (Or.inl ⟨by rfl, fun w hSw => ?hy6⟩) HS0 ?_
      case hy6 => (try dsimp only at hSw); go_simp
      simp only [Act.put, List.getElem_toArray, List.getElem_cons_zero, List.getElem_cons_succ, List.setIfInBounds_toArray, List.set_cons_zero, List.set_cons_succ]
      refine wpUntil.takeC (i := 7) (v := (.string (B D.b1))) [9, 13] rfl (by kernel_rfl) (by kernel_rfl) (by kernel_rfl) (by kernel_rfl) (fun _ _ _ h => h) (Or.inl ⟨by rfl, fun w hSw => ?hy7⟩) HS0 ?_
      case hy7 => (try dsimp only at hSw); go_simp
      simp only [Act.put, List.getElem_toArray, List.getElem_cons_zero, List.getElem_cons_succ, List.setIfInBounds_toArray, List.set_cons_zero, List.set_cons_succ]
      refine wpUntil.takeC (i := 8) (v := (.string (B l))) [9, 13] rfl (by kernel_rfl) (by kernel_rfl) (by kernel_rfl) (by kernel_rfl) (fun _ _ _ h => h) (Or.inl ⟨by rfl, fun w hSw => ?hy8⟩) HS0 ?_
      case hy8 => (try dsimp only at hSw); go_simp
      simp only [Act.put, List.getElem_toArray, List.getElem_cons_zero, List.getElem_cons_succ, List.setIfInBounds_toArray, List.set_cons_zero, List.set_cons_succ]
      refine wpUntil.takeC (i := 9) (v := (.string (B (D.b1 ++ l)))) [13] rfl (by kernel_rfl) (by kernel_rfl) (by kernel_rfl) (by kernel_rfl) (fun _ _ _ h => h) (Or.inl ⟨by rfl, fun w hSw => ?hy9⟩) HS0 ?_
      case hy9 => (try dsimp only at hSw); go_simp
      simp only [Act.put, List.getElem_toArray, List.getElem_cons_zero, List.getElem_cons_succ, List.setIfInBounds_toArray, List.set_cons_zero, List.set_cons_succ]
      refine wpUntil.takeC (i := 10) (v := (.pointer (some ⟨q, 0, none⟩))) [11, 12, 13] rfl (by kernel_rfl) (by kernel_rfl) (by kernel_rfl) (by kernel_rfl) (fun _ _ _ h => h) (Or.inl ⟨by rfl, fun w hSw => ?hy10⟩) HS0 ?_
      case hy10 => (try dsimp only at hSw); go_simp
      simp only [Act.put, List.getElem_toArray, List.getElem_cons_zero, List.getElem_cons_succ, List.setIfInBounds_toArray, List.set_cons_zero, List.set_cons_succ]
      refine wpUntil.takeC (i := 11) (v := (.pointer (some ⟨q, 0, none⟩))) [12, 13] rfl (by kernel_rfl) (by kernel_rfl) (by kernel_rfl) (by kernel_rfl) (fun _ _ _ h => h) (Or.inl ⟨by rfl, fun w hSw => ?hy11⟩) HS0 ?_
      case hy11 => (try dsimp only at hSw); go_simp
      simp only [Act.put, List.getElem_toArray, List.getElem_cons_zero, List.getElem_cons_succ, List.setIfInBounds_toArray, List.set_cons_zero, List.set_cons_succ]
      refine wpUntil.takeC (i := 12) (v := (.pointer (some ⟨q, 1, none⟩))) [13] rfl (by kernel_rfl) (by kernel_rfl) (by kernel_rfl) (by kernel_rfl) (fun _ _ _ h => h) (Or.inl ⟨by rfl, fun w hSw => ?hy12⟩) HS0 ?_
      case hy12 => (try dsimp only at hSw); go_simp
      simp only [Act.put, List.getElem_toArray, List.getElem_cons_zero, List.getElem_cons_succ, List.setIfInBounds_toArray, List.set_cons_zero, List.set_cons_succ]
      refine wpUntil.only (i := 13) rfl (by kernel_rfl) (by rfl) ?_
      simp only [Act.put, List.getElem_toArray, List.getElem_cons_zero, List.getElem_cons_succ, List.setIfInBounds_toArray, List.set_cons_zero, List.set_cons_succ]
      go_simp
      refine ⟨by kernel_rfl, ?_⟩
      refine world_any (F := fun W => RD W q (({ D with due := n } : Dk).app 1 l) kp U M ∧ w.turned W (fun k => k = q)) ⟨rdx_drew (rdx_app1 HW1.out l), (turned_set (S := (fun k => k = q)) HW2.out rfl _).drew⟩ ?_
      rintro W ⟨hW1, hW2⟩
      have HW1 : Hid (RD W q (({ D with due := n } : Dk).app 1 l) kp U M) := hW1
      have HW2 : Hid (w.turned W (fun k => k = q)) := hW2
      obtain ⟨q0, q1, q2, q3, q4, q5, q6, q7, qf⟩ := rd_cells hW1.blk
      have hqw := hW1.lt
      clear hW1 hW2
      go_wp2_with fail
      refine (refCrash W q _ kp U M HW1.out (by have := HLB.out.1; exact this) (by have := HLB.out.2; exact this) kp H.out.kb).mono ?_
      rintro e w9 ⟨rfl, hd9, ht9⟩
      have HD9 : Hid (RD w9 q ((({ D with due := n } : Dk).app 1 l).crash kp) kp 0 M) := hd9
      have HT9 : Hid (w.turned w9 (fun k => k = q)) := HW2.out.trans ht9 fun _ _ h => h
      clear hd9 ht9
      go_wp2_with fail
      go_ret
      have hr : r = (false, (({ D with due := n } : Dk).app 1 l).crash kp) := by
        rw [HR.out, H.out.kq (by have := HN.out.2; omega)]
        have h2 : (D.app 1 l).due = 1 := HN.out.2
        unfold Dk.act
        rw [if_neg (by omega), if_pos h2]
        rfl
      rw [HX.out, hr]
      exact ⟨rfl, HD9.out, HT9.out⟩
    · have e1 : ((D.due : Int) == 1) = false := by rw [beq_eq_false_iff_ne]; omega
      have e2 : 0 < D.due := by omega
      have hbd : D.b1.length + l.length ≤ 9223372036854775807 := by
        have h1 := HLB.out.2
        simp [Dk.app] at h1
        omega
      obtain ⟨n, hn⟩ : ∃ n, n = D.due - 1 := ⟨_, rfl⟩
      have w1 : IntKind.i64.wrap ((D.due : Int) - 1) = (n : Int) := by rw [wrap_id _ (by omega) (by omega)]; omega
      have HN : Hid (n = D.due - 1 ∧ 2 ≤ D.due) := ⟨hn, hc⟩
      clear hn hc hdb
      go_enter Try.func159, Try.ntmps159
      go_wp2_with fail
      refine world_any (F := fun W => RD W q { D with due := n } kp U M ∧ w.turned W (fun k => k = q)) ⟨rdx_due H.out HN.out.1, turned_set (S := (fun k => k = q)) (World.turned.refl w _) rfl _⟩ ?_
      rintro W ⟨hW1, hW2⟩
      have HW1 : Hid (RD W q { D with due := n } kp U M) := hW1
      have HW2 : Hid (w.turned W (fun k => k = q)) := hW2
      obtain ⟨q0, q1, q2, q3, q4, q5, q6, q7, qf⟩ := rd_cells hW1.blk
      have hqw := hW1.lt
      clear hW1 hW2
      clear q0 q1 q2 q3 q4 q5 q6 q7
      have q1 : W.cell? ⟨q, 1, none⟩ = some (.string (B D.b1)) := (rd_cells HW1.out.blk).2.1
      refine wp_region_until (fun w' => w'.cell? ⟨q, 1, none⟩ = some (.string (B D.b1))) 13 (by kernel_rfl) ?_
      have HS0 : ((fun w' => w'.cell? ⟨q, 1, none⟩ = some (.string (B D.b1))) : World → Prop) W.drew := q1
      refine wpUntil.takeC (i := 0) (v := (.pointer (some ⟨q, 0, none⟩))) [10, 11, 12, 13] rfl (by kernel_rfl) (by kernel_rfl) (by kernel_rfl) (by kernel_rfl) (fun _ _ _ h => h) (Or.inl ⟨by rfl, fun w hSw => ?hy0⟩) HS0 ?_
      case hy0 => (try dsimp only at hSw); go_simp
      simp only [Act.put, List.getElem_toArray, List.getElem_cons_zero, List.getElem_cons_succ, List.setIfInBounds_toArray, List.set_cons_zero, List.set_cons_succ]
      refine wpUntil.takeC (i := 1) (v := (.int .i64 1)) [12, 13] rfl (by kernel_rfl) (by kernel_rfl) (by kernel_rfl) (by kernel_rfl) (fun _ _ _ h => h) (Or.inl ⟨by rfl, fun w hSw => ?hy1⟩) HS0 ?_
      case hy1 => (try dsimp only at hSw); go_simp
      simp only [Act.put, List.getElem_toArray, List.getElem_cons_zero, List.getElem_cons_succ, List.setIfInBounds_toArray, List.set_cons_zero, List.set_cons_succ]
      refine wpUntil.takeC (i := 2) (v := (.pointer (some ⟨q, 0, none⟩))) [4, 5, 6, 7, 9, 13] rfl (by kernel_rfl) (by kernel_rfl) (by kernel_rfl) (by kernel_rfl) (fun _ _ _ h => h) (Or.inl ⟨by rfl, fun w hSw => ?hy2⟩) HS0 ?_
      case hy2 => (try dsimp only at hSw); go_simp
      simp only [Act.put, List.getElem_toArray, List.getElem_cons_zero, List.getElem_cons_succ, List.setIfInBounds_toArray, List.set_cons_zero, List.set_cons_succ]
      refine wpUntil.takeC (i := 3) (v := (.int .i64 1)) [6, 7, 9, 13] rfl (by kernel_rfl) (by kernel_rfl) (by kernel_rfl) (by kernel_rfl) (fun _ _ _ h => h) (Or.inl ⟨by rfl, fun w hSw => ?hy3⟩) HS0 ?_
      case hy3 => (try dsimp only at hSw); go_simp
      simp only [Act.put, List.getElem_toArray, List.getElem_cons_zero, List.getElem_cons_succ, List.setIfInBounds_toArray, List.set_cons_zero, List.set_cons_succ]
      refine wpUntil.takeC (i := 4) (v := (.pointer (some ⟨q, 0, none⟩))) [5, 6, 7, 9, 13] rfl (by kernel_rfl) (by kernel_rfl) (by kernel_rfl) (by kernel_rfl) (fun _ _ _ h => h) (Or.inl ⟨by rfl, fun w hSw => ?hy4⟩) HS0 ?_
      case hy4 => (try dsimp only at hSw); go_simp
      simp only [Act.put, List.getElem_toArray, List.getElem_cons_zero, List.getElem_cons_succ, List.setIfInBounds_toArray, List.set_cons_zero, List.set_cons_succ]
      refine wpUntil.takeC (i := 5) (v := (.pointer (some ⟨q, 0, none⟩))) [6, 7, 9, 13] rfl (by kernel_rfl) (by kernel_rfl) (by kernel_rfl) (by kernel_rfl) (fun _ _ _ h => h) (Or.inl ⟨by rfl, fun w hSw => ?hy5⟩) HS0 ?_
      case hy5 => (try dsimp only at hSw); go_simp
      simp only [Act.put, List.getElem_toArray, List.getElem_cons_zero, List.getElem_cons_succ, List.setIfInBounds_toArray, List.set_cons_zero, List.set_cons_succ]
      refine wpUntil.takeC (i := 6) (v := (.pointer (some ⟨q, 1, none⟩))) [7, 9, 13] rfl (by kernel_rfl) (by kernel_rfl) (by kernel_rfl) (by kernel_rfl) (fun _ _ _ h => h) (Or.inl ⟨by rfl, fun w hSw => ?hy6⟩) HS0 ?_
      case hy6 => (try dsimp only at hSw); go_simp
      simp only [Act.put, List.getElem_toArray, List.getElem_cons_zero, List.getElem_cons_succ, List.setIfInBounds_toArray, List.set_cons_zero, List.set_cons_succ]
      refine wpUntil.takeC (i := 7) (v := (.string (B D.b1))) [9, 13] rfl (by kernel_rfl) (by kernel_rfl) (by kernel_rfl) (by kernel_rfl) (fun _ _ _ h => h) (Or.inl ⟨by rfl, fun w hSw => ?hy7⟩) HS0 ?_
      case hy7 => (try dsimp only at hSw); go_simp
      simp only [Act.put, List.getElem_toArray, List.getElem_cons_zero, List.getElem_cons_succ, List.setIfInBounds_toArray, List.set_cons_zero, List.set_cons_succ]
      refine wpUntil.takeC (i := 8) (v := (.string (B l))) [9, 13] rfl (by kernel_rfl) (by kernel_rfl) (by kernel_rfl) (by kernel_rfl) (fun _ _ _ h => h) (Or.inl ⟨by rfl, fun w hSw => ?hy8⟩) HS0 ?_
      case hy8 => (try dsimp only at hSw); go_simp
      simp only [Act.put, List.getElem_toArray, List.getElem_cons_zero, List.getElem_cons_succ, List.setIfInBounds_toArray, List.set_cons_zero, List.set_cons_succ]
      refine wpUntil.takeC (i := 9) (v := (.string (B (D.b1 ++ l)))) [13] rfl (by kernel_rfl) (by kernel_rfl) (by kernel_rfl) (by kernel_rfl) (fun _ _ _ h => h) (Or.inl ⟨by rfl, fun w hSw => ?hy9⟩) HS0 ?_
      case hy9 => (try dsimp only at hSw); go_simp
      simp only [Act.put, List.getElem_toArray, List.getElem_cons_zero, List.getElem_cons_succ, List.setIfInBounds_toArray, List.set_cons_zero, List.set_cons_succ]
      refine wpUntil.takeC (i := 10) (v := (.pointer (some ⟨q, 0, none⟩))) [11, 12, 13] rfl (by kernel_rfl) (by kernel_rfl) (by kernel_rfl) (by kernel_rfl) (fun _ _ _ h => h) (Or.inl ⟨by rfl, fun w hSw => ?hy10⟩) HS0 ?_
      case hy10 => (try dsimp only at hSw); go_simp
      simp only [Act.put, List.getElem_toArray, List.getElem_cons_zero, List.getElem_cons_succ, List.setIfInBounds_toArray, List.set_cons_zero, List.set_cons_succ]
      refine wpUntil.takeC (i := 11) (v := (.pointer (some ⟨q, 0, none⟩))) [12, 13] rfl (by kernel_rfl) (by kernel_rfl) (by kernel_rfl) (by kernel_rfl) (fun _ _ _ h => h) (Or.inl ⟨by rfl, fun w hSw => ?hy11⟩) HS0 ?_
      case hy11 => (try dsimp only at hSw); go_simp
      simp only [Act.put, List.getElem_toArray, List.getElem_cons_zero, List.getElem_cons_succ, List.setIfInBounds_toArray, List.set_cons_zero, List.set_cons_succ]
      refine wpUntil.takeC (i := 12) (v := (.pointer (some ⟨q, 1, none⟩))) [13] rfl (by kernel_rfl) (by kernel_rfl) (by kernel_rfl) (by kernel_rfl) (fun _ _ _ h => h) (Or.inl ⟨by rfl, fun w hSw => ?hy12⟩) HS0 ?_
      case hy12 => (try dsimp only at hSw); go_simp
      simp only [Act.put, List.getElem_toArray, List.getElem_cons_zero, List.getElem_cons_succ, List.setIfInBounds_toArray, List.set_cons_zero, List.set_cons_succ]
      refine wpUntil.only (i := 13) rfl (by kernel_rfl) (by rfl) ?_
      simp only [Act.put, List.getElem_toArray, List.getElem_cons_zero, List.getElem_cons_succ, List.setIfInBounds_toArray, List.set_cons_zero, List.set_cons_succ]
      go_simp
      refine ⟨by kernel_rfl, ?_⟩
      refine world_any (F := fun W => RD W q (({ D with due := n } : Dk).app 1 l) kp U M ∧ w.turned W (fun k => k = q)) ⟨rdx_drew (rdx_app1 HW1.out l), (turned_set (S := (fun k => k = q)) HW2.out rfl _).drew⟩ ?_
      rintro W ⟨hW1, hW2⟩
      have HW1 : Hid (RD W q (({ D with due := n } : Dk).app 1 l) kp U M) := hW1
      have HW2 : Hid (w.turned W (fun k => k = q)) := hW2
      obtain ⟨q0, q1, q2, q3, q4, q5, q6, q7, qf⟩ := rd_cells hW1.blk
      have hqw := hW1.lt
      clear hW1 hW2
      go_wp2_with fail
      go_ret
      have hr : r = (true, ({ D with due := n } : Dk).app 1 l) := by
        rw [HR.out]
        have h2 : 2 ≤ (D.app 1 l).due := HN.out.2
        unfold Dk.act
        rw [if_neg (by omega), if_neg (by omega), HN.out.1]
        rfl
      rw [HX.out, hr]
      exact ⟨rfl, HW1.out, HW2.out⟩
end Go.Proofs.Ytcbbnmodjnnbeaa
