/- The document's disk: act, Sync and Cut. -/
import Derived.Test.YtcbbnmodjnnbeaaJrnC
set_option linter.unusedSimpArgs false
set_option linter.unusedVariables false
namespace Go.Proofs.Ytcbbnmodjnnbeaa
open Go.RowKit

set_option maxRecDepth 100000 in
set_option maxHeartbeats 8000000 in
theorem refAct2 (w : World) (q : Nat) (D : Dk) (kp : Int) (U M : Nat) (h : RD w q D kp U M) (k : Nat) (hk : k = 0 ∨ k = 1) (hl0 : D.b0.length ≤ 1000000000000) (hl1 : D.b1.length ≤ 1000000000000) :
    Calls Try.prog 159 #[.pointer (some ⟨q, 0, none⟩), .int .i64 2, .int .i64 k, .string ⟨#[]⟩] w fun e w' => e = .returned (.bool (D.sync k).1) ∧ RD w' q (D.sync k).2 kp (if (D.sync k).1 = true then U else 0) M ∧ w.turned w' (fun k => k = q) := by
  have H : Hid (RD w q D kp U M) := h
  have HLB : Hid (D.b0.length ≤ 1000000000000 ∧ D.b1.length ≤ 1000000000000) := ⟨hl0, hl1⟩
  obtain ⟨q0, q1, q2, q3, q4, q5, q6, q7, qf⟩ := rd_cells h.blk
  have hq := h.lt
  have hdb := h.db
  clear h hl0 hl1
  obtain ⟨r, hr0⟩ : ∃ r, r = D.sync k := ⟨_, rfl⟩
  obtain ⟨X, hX⟩ : ∃ X, X = if r.1 = true then U else 0 := ⟨_, rfl⟩
  have HX : Hid (X = if r.1 = true then U else 0) := hX
  rw [← hr0, ← hX]
  have HR : Hid (r = D.sync k) := hr0
  clear hX hr0
  have hc3 : D.due = 0 ∨ D.due = 1 ∨ 2 ≤ D.due := by omega
  rcases hk with rfl | rfl
  · rcases hc3 with hc | hc | hc
    · have e1 : ((D.due : Int) == 1) = false := by rw [hc]; rfl
      have e2 : ¬ 0 < D.due := by omega
      obtain ⟨n, hn⟩ : ∃ n, n = D.due - 1 := ⟨_, rfl⟩
      have HN : Hid (n = D.due - 1 ∧ D.due = 0) := ⟨hn, hc⟩
      clear hn hc hdb
      go_enter Try.func159, Try.ntmps159
      go_wp2_with fail
      refine world_any (F := fun W => RD W q D kp U M ∧ w.turned W (fun k => k = q)) ⟨H.out, World.turned.refl _ _⟩ ?_
      rintro W ⟨hW1, hW2⟩
      have HW1 : Hid (RD W q D kp U M) := hW1
      have HW2 : Hid (w.turned W (fun k => k = q)) := hW2
      obtain ⟨q0, q1, q2, q3, q4, q5, q6, q7, qf⟩ := rd_cells hW1.blk
      have hqw := hW1.lt
      clear hW1 hW2
      go_region_held3 (fun w' => w'.cell? ⟨q, 0, none⟩ = some (.string (B D.b0))) (first | (simp [go_sem]; assumption) | go_keep) (fail)
      refine world_any (F := fun W => RD W q (D.last 0) kp U M ∧ w.turned W (fun k => k = q)) ⟨rdx_drew (rdx_last0 HW1.out), (turned_set (S := (fun k => k = q)) HW2.out rfl _).drew⟩ ?_
      rintro W ⟨hW1, hW2⟩
      have HW1 : Hid (RD W q (D.last 0) kp U M) := hW1
      have HW2 : Hid (w.turned W (fun k => k = q)) := hW2
      obtain ⟨q0, q1, q2, q3, q4, q5, q6, q7, qf⟩ := rd_cells hW1.blk
      have hqw := hW1.lt
      clear hW1 hW2
      go_wp2_with fail
      go_ret
      have hr : r = (true, D.last 0) := by
        rw [HR.out]
        have h2 : D.due = 0 := HN.out.2
        have h3 : D.act = (true, D) := by
          unfold Dk.act
          rw [if_pos h2]
        unfold Dk.sync
        rw [h3]
        rfl
      rw [HX.out, hr]
      exact ⟨rfl, HW1.out, HW2.out⟩
    · have e1 : ((D.due : Int) == 1) = true := by rw [hc]; rfl
      have e2 : 0 < D.due := by omega
      obtain ⟨n, hn⟩ : ∃ n, n = D.due - 1 := ⟨_, rfl⟩
      have w1 : IntKind.i64.wrap ((D.due : Int) - 1) = (n : Int) := by rw [wrap_id _ (by omega) (by omega)]; omega
      have HN : Hid (n = D.due - 1 ∧ D.due = 1) := ⟨hn, hc⟩
      clear hn hc hdb
      go_enter Try.func159, Try.ntmps159
      go_wp2_with fail
      have HW1 : Hid (RD (w.setCell ⟨q, 4, none⟩ (.int .i64 n)) q { D with due := n } kp U M) := rdx_due H.out HN.out.1
      refine (refCrash _ q _ kp U M HW1.out HLB.out.1 HLB.out.2 kp H.out.kb).mono ?_
      rintro e w9 ⟨rfl, hd9, ht9⟩
      have HD9 : Hid (RD w9 q (({ D with due := n } : Dk).crash kp) kp 0 M) := hd9
      have HT9 : Hid (w.turned w9 (fun k => k = q)) := (turned_set (S := (fun k => k = q)) (World.turned.refl w _) rfl _).trans ht9 fun _ _ h => h
      clear hd9 ht9
      go_wp2_with fail
      go_ret
      have hr : r = (false, ({ D with due := n } : Dk).crash kp) := by
        rw [HR.out, H.out.kq (by have := HN.out.2; omega)]
        have h2 : D.due = 1 := HN.out.2
        have h3 : D.act = (false, D.crash D.keep) := by
          unfold Dk.act
          rw [if_neg (by omega), if_pos h2]
        unfold Dk.sync
        rw [h3]
        rfl
      rw [HX.out, hr]
      exact ⟨rfl, HD9.out, HT9.out⟩
    · have e1 : ((D.due : Int) == 1) = false := by rw [beq_eq_false_iff_ne]; omega
      have e2 : 0 < D.due := by omega
      obtain ⟨n, hn⟩ : ∃ n, n = D.due - 1 := ⟨_, rfl⟩
      have w1 : IntKind.i64.wrap ((D.due : Int) - 1) = (n : Int) := by rw [wrap_id _ (by omega) (by omega)]; omega
      have HN : Hid (n = D.due - 1 ∧ 2 ≤ D.due) := ⟨hn, hc⟩
      clear hn hc hdb
      go_enter Try.func159, Try.ntmps159
      go_wp2_with fail
      refine world_any (F := fun W => RD W q { D with due := n } kp U M ∧ w.turned W (fun k => k = q)) ⟨rdx_due H.out HN.out.1, turned_set (S := (fun k => k = q)) (World.turned.refl w _) rfl _⟩ ?_
      rintro W ⟨hW1, hW2⟩
      have HW1 : Hid (RD W q { D with due := n } kp U M) := hW1
      have HW2 : Hid (w.turned W (fun k => k = q)) := hW2
      obtain ⟨q0, q1, q2, q3, q4, q5, q6, q7, qf⟩ := rd_cells hW1.blk
      have hqw := hW1.lt
      clear hW1 hW2
      go_region_held3 (fun w' => w'.cell? ⟨q, 0, none⟩ = some (.string (B D.b0))) (first | (simp [go_sem]; assumption) | go_keep) (fail)
      refine world_any (F := fun W => RD W q (({ D with due := n } : Dk).last 0) kp U M ∧ w.turned W (fun k => k = q)) ⟨rdx_drew (rdx_last0 HW1.out), (turned_set (S := (fun k => k = q)) HW2.out rfl _).drew⟩ ?_
      rintro W ⟨hW1, hW2⟩
      have HW1 : Hid (RD W q (({ D with due := n } : Dk).last 0) kp U M) := hW1
      have HW2 : Hid (w.turned W (fun k => k = q)) := hW2
      obtain ⟨q0, q1, q2, q3, q4, q5, q6, q7, qf⟩ := rd_cells hW1.blk
      have hqw := hW1.lt
      clear hW1 hW2
      go_wp2_with fail
      go_ret
      have hr : r = (true, ({ D with due := n } : Dk).last 0) := by
        rw [HR.out]
        have h2 : 2 ≤ D.due := HN.out.2
        have h3 : D.act = (true, ({ D with due := n } : Dk)) := by
          unfold Dk.act
          rw [if_neg (by omega), if_neg (by omega), HN.out.1]
        unfold Dk.sync
        rw [h3]
        rfl
      rw [HX.out, hr]
      exact ⟨rfl, HW1.out, HW2.out⟩
  · rcases hc3 with hc | hc | hc
    · have e1 : ((D.due : Int) == 1) = false := by rw [hc]; rfl
      have e2 : ¬ 0 < D.due := by omega
      obtain ⟨n, hn⟩ : ∃ n, n = D.due - 1 := ⟨_, rfl⟩
      have HN : Hid (n = D.due - 1 ∧ D.due = 0) := ⟨hn, hc⟩
      clear hn hc hdb
      go_enter Try.func159, Try.ntmps159
      go_wp2_with fail
      refine world_any (F := fun W => RD W q D kp U M ∧ w.turned W (fun k => k = q)) ⟨H.out, World.turned.refl _ _⟩ ?_
      rintro W ⟨hW1, hW2⟩
      have HW1 : Hid (RD W q D kp U M) := hW1
      have HW2 : Hid (w.turned W (fun k => k = q)) := hW2
      obtain ⟨q0, q1, q2, q3, q4, q5, q6, q7, qf⟩ := rd_cells hW1.blk
      have hqw := hW1.lt
      clear hW1 hW2
      go_region_held3 (fun w' => w'.cell? ⟨q, 1, none⟩ = some (.string (B D.b1))) (first | (simp [go_sem]; assumption) | go_keep) (fail)
      refine world_any (F := fun W => RD W q (D.last 1) kp U M ∧ w.turned W (fun k => k = q)) ⟨rdx_drew (rdx_last1 HW1.out), (turned_set (S := (fun k => k = q)) HW2.out rfl _).drew⟩ ?_
      rintro W ⟨hW1, hW2⟩
      have HW1 : Hid (RD W q (D.last 1) kp U M) := hW1
      have HW2 : Hid (w.turned W (fun k => k = q)) := hW2
      obtain ⟨q0, q1, q2, q3, q4, q5, q6, q7, qf⟩ := rd_cells hW1.blk
      have hqw := hW1.lt
      clear hW1 hW2
      go_wp2_with fail
      go_ret
      have hr : r = (true, D.last 1) := by
        rw [HR.out]
        have h2 : D.due = 0 := HN.out.2
        have h3 : D.act = (true, D) := by
          unfold Dk.act
          rw [if_pos h2]
        unfold Dk.sync
        rw [h3]
        rfl
      rw [HX.out, hr]
      exact ⟨rfl, HW1.out, HW2.out⟩
    · have e1 : ((D.due : Int) == 1) = true := by rw [hc]; rfl
      have e2 : 0 < D.due := by omega
      obtain ⟨n, hn⟩ : ∃ n, n = D.due - 1 := ⟨_, rfl⟩
      have w1 : IntKind.i64.wrap ((D.due : Int) - 1) = (n : Int) := by rw [wrap_id _ (by omega) (by omega)]; omega
      have HN : Hid (n = D.due - 1 ∧ D.due = 1) := ⟨hn, hc⟩
      clear hn hc hdb
      go_enter Try.func159, Try.ntmps159
      go_wp2_with fail
      have HW1 : Hid (RD (w.setCell ⟨q, 4, none⟩ (.int .i64 n)) q { D with due := n } kp U M) := rdx_due H.out HN.out.1
      refine (refCrash _ q _ kp U M HW1.out HLB.out.1 HLB.out.2 kp H.out.kb).mono ?_
      rintro e w9 ⟨rfl, hd9, ht9⟩
      have HD9 : Hid (RD w9 q (({ D with due := n } : Dk).crash kp) kp 0 M) := hd9
      have HT9 : Hid (w.turned w9 (fun k => k = q)) := (turned_set (S := (fun k => k = q)) (World.turned.refl w _) rfl _).trans ht9 fun _ _ h => h
      clear hd9 ht9
      go_wp2_with fail
      go_ret
      have hr : r = (false, ({ D with due := n } : Dk).crash kp) := by
        rw [HR.out, H.out.kq (by have := HN.out.2; omega)]
        have h2 : D.due = 1 := HN.out.2
        have h3 : D.act = (false, D.crash D.keep) := by
          unfold Dk.act
          rw [if_neg (by omega), if_pos h2]
        unfold Dk.sync
        rw [h3]
        rfl
      rw [HX.out, hr]
      exact ⟨rfl, HD9.out, HT9.out⟩
    · have e1 : ((D.due : Int) == 1) = false := by rw [beq_eq_false_iff_ne]; omega
      have e2 : 0 < D.due := by omega
      obtain ⟨n, hn⟩ : ∃ n, n = D.due - 1 := ⟨_, rfl⟩
      have w1 : IntKind.i64.wrap ((D.due : Int) - 1) = (n : Int) := by rw [wrap_id _ (by omega) (by omega)]; omega
      have HN : Hid (n = D.due - 1 ∧ 2 ≤ D.due) := ⟨hn, hc⟩
      clear hn hc hdb
      go_enter Try.func159, Try.ntmps159
      go_wp2_with fail
      refine world_any (F := fun W => RD W q { D with due := n } kp U M ∧ w.turned W (fun k => k = q)) ⟨rdx_due H.out HN.out.1, turned_set (S := (fun k => k = q)) (World.turned.refl w _) rfl _⟩ ?_
      rintro W ⟨hW1, hW2⟩
      have HW1 : Hid (RD W q { D with due := n } kp U M) := hW1
      have HW2 : Hid (w.turned W (fun k => k = q)) := hW2
      obtain ⟨q0, q1, q2, q3, q4, q5, q6, q7, qf⟩ := rd_cells hW1.blk
      have hqw := hW1.lt
      clear hW1 hW2
      go_region_held3 (fun w' => w'.cell? ⟨q, 1, none⟩ = some (.string (B D.b1))) (first | (simp [go_sem]; assumption) | go_keep) (fail)
      refine world_any (F := fun W => RD W q (({ D with due := n } : Dk).last 1) kp U M ∧ w.turned W (fun k => k = q)) ⟨rdx_drew (rdx_last1 HW1.out), (turned_set (S := (fun k => k = q)) HW2.out rfl _).drew⟩ ?_
      rintro W ⟨hW1, hW2⟩
      have HW1 : Hid (RD W q (({ D with due := n } : Dk).last 1) kp U M) := hW1
      have HW2 : Hid (w.turned W (fun k => k = q)) := hW2
      obtain ⟨q0, q1, q2, q3, q4, q5, q6, q7, qf⟩ := rd_cells hW1.blk
      have hqw := hW1.lt
      clear hW1 hW2
      go_wp2_with fail
      go_ret
      have hr : r = (true, ({ D with due := n } : Dk).last 1) := by
        rw [HR.out]
        have h2 : 2 ≤ D.due := HN.out.2
        have h3 : D.act = (true, ({ D with due := n } : Dk)) := by
          unfold Dk.act
          rw [if_neg (by omega), if_neg (by omega), HN.out.1]
        unfold Dk.sync
        rw [h3]
        rfl
      rw [HX.out, hr]
      exact ⟨rfl, HW1.out, HW2.out⟩
set_option maxRecDepth 100000 in
set_option maxHeartbeats 8000000 in
theorem refAct3 (w : World) (q : Nat) (D : Dk) (kp : Int) (U M : Nat) (h : RD w q D kp U M) (k : Nat) (hk : k = 0 ∨ k = 1) (hl0 : D.b0.length ≤ 1000000000000) (hl1 : D.b1.length ≤ 1000000000000) :
    Calls Try.prog 159 #[.pointer (some ⟨q, 0, none⟩), .int .i64 3, .int .i64 k, .string ⟨#[]⟩] w fun e w' => e = .returned (.bool (D.cut k).1) ∧ RD w' q (D.cut k).2 kp (if (D.cut k).1 = true then U else 0) M ∧ w.turned w' (fun k => k = q) := by
  have H : Hid (RD w q D kp U M) := h
  have HLB : Hid (D.b0.length ≤ 1000000000000 ∧ D.b1.length ≤ 1000000000000) := ⟨hl0, hl1⟩
  obtain ⟨q0, q1, q2, q3, q4, q5, q6, q7, qf⟩ := rd_cells h.blk
  have hq := h.lt
  have hdb := h.db
  clear h hl0 hl1
  obtain ⟨r, hr0⟩ : ∃ r, r = D.cut k := ⟨_, rfl⟩
  obtain ⟨X, hX⟩ : ∃ X, X = if r.1 = true then U else 0 := ⟨_, rfl⟩
  have HX : Hid (X = if r.1 = true then U else 0) := hX
  rw [← hr0, ← hX]
  have HR : Hid (r = D.cut k) := hr0
  clear hX hr0
  have hc3 : D.due = 0 ∨ D.due = 1 ∨ 2 ≤ D.due := by omega
  rcases hk with rfl | rfl
  · rcases hc3 with hc | hc | hc
    · have e1 : ((D.due : Int) == 1) = false := by rw [hc]; rfl
      have e2 : ¬ 0 < D.due := by omega
      obtain ⟨n, hn⟩ : ∃ n, n = D.due - 1 := ⟨_, rfl⟩
      have HN : Hid (n = D.due - 1 ∧ D.due = 0) := ⟨hn, hc⟩
      clear hn hc hdb
      go_enter Try.func159, Try.ntmps159
      go_wp2_with fail
      refine world_any (F := fun W => ∃ W0, RD W0 q D kp U M ∧ w.turned W0 (fun k => k = q) ∧ W = W0.setCell ⟨q, 0, none⟩ (.string ⟨#[]⟩)) ⟨_, H.out, World.turned.refl _ _, rfl⟩ ?_
      rintro W ⟨W0, hW1, hW2, rfl⟩
      have HW1 : Hid (RD W0 q D kp U M) := hW1
      have HW2 : Hid (w.turned W0 (fun k => k = q)) := hW2
      clear q0 q1 q2 q3 q4 q5 q6 q7
      obtain ⟨q0, q1, q2, q3, q4, q5, q6, q7, qf⟩ := rd_cells hW1.blk
      have hqw := hW1.lt
      clear hW1 hW2
      have zk : (W0.setCell ⟨q, 0, none⟩ (.string ⟨#[]⟩)).cell? ⟨q, 0, none⟩ = some (.string ⟨#[]⟩) := by
        simp only [World.cell?, cells_set HW1.out.blk (.string ⟨#[]⟩)]; rfl
      go_region_held3 (fun w' => w'.cell? ⟨q, 0, none⟩ = some (.string ⟨#[]⟩)) (first | exact zk | (simp [go_sem]; assumption) | go_keep) (fail)
      refine world_any (F := fun W => RD W q (D.clr 0) kp U M ∧ w.turned W (fun k => k = q)) ⟨rdx_drew (rdx_clr0 HW1.out), (turned_set (S := (fun k => k = q)) (turned_set (S := (fun k => k = q)) HW2.out rfl _) rfl _).drew⟩ ?_
      rintro W ⟨hW1, hW2⟩
      have HW1 : Hid (RD W q (D.clr 0) kp U M) := hW1
      have HW2 : Hid (w.turned W (fun k => k = q)) := hW2
      obtain ⟨q0, q1, q2, q3, q4, q5, q6, q7, qf⟩ := rd_cells hW1.blk
      have hqw := hW1.lt
      clear hW1 hW2
      go_wp2_with fail
      go_ret
      have hr : r = (true, D.clr 0) := by
        rw [HR.out]
        have h2 : D.due = 0 := HN.out.2
        have h3 : D.act = (true, D) := by
          unfold Dk.act
          rw [if_pos h2]
        unfold Dk.cut
        rw [h3]
        rfl
      rw [HX.out, hr]
      exact ⟨rfl, HW1.out, HW2.out⟩
    · have e1 : ((D.due : Int) == 1) = true := by rw [hc]; rfl
      have e2 : 0 < D.due := by omega
      obtain ⟨n, hn⟩ : ∃ n, n = D.due - 1 := ⟨_, rfl⟩
      have w1 : IntKind.i64.wrap ((D.due : Int) - 1) = (n : Int) := by rw [wrap_id _ (by omega) (by omega)]; omega
      have HN : Hid (n = D.due - 1 ∧ D.due = 1) := ⟨hn, hc⟩
      clear hn hc hdb
      go_enter Try.func159, Try.ntmps159
      go_wp2_with fail
      have HW1 : Hid (RD (w.setCell ⟨q, 4, none⟩ (.int .i64 n)) q { D with due := n } kp U M) := rdx_due H.out HN.out.1
      refine (refCrash _ q _ kp U M HW1.out HLB.out.1 HLB.out.2 kp H.out.kb).mono ?_
      rintro e w9 ⟨rfl, hd9, ht9⟩
      have HD9 : Hid (RD w9 q (({ D with due := n } : Dk).crash kp) kp 0 M) := hd9
      have HT9 : Hid (w.turned w9 (fun k => k = q)) := (turned_set (S := (fun k => k = q)) (World.turned.refl w _) rfl _).trans ht9 fun _ _ h => h
      clear hd9 ht9
      go_wp2_with fail
      go_ret
      have hr : r = (false, ({ D with due := n } : Dk).crash kp) := by
        rw [HR.out, H.out.kq (by have := HN.out.2; omega)]
        have h2 : D.due = 1 := HN.out.2
        have h3 : D.act = (false, D.crash D.keep) := by
          unfold Dk.act
          rw [if_neg (by omega), if_pos h2]
        unfold Dk.cut
        rw [h3]
        rfl
      rw [HX.out, hr]
      exact ⟨rfl, HD9.out, HT9.out⟩
    · have e1 : ((D.due : Int) == 1) = false := by rw [beq_eq_false_iff_ne]; omega
      have e2 : 0 < D.due := by omega
      obtain ⟨n, hn⟩ : ∃ n, n = D.due - 1 := ⟨_, rfl⟩
      have w1 : IntKind.i64.wrap ((D.due : Int) - 1) = (n : Int) := by rw [wrap_id _ (by omega) (by omega)]; omega
      have HN : Hid (n = D.due - 1 ∧ 2 ≤ D.due) := ⟨hn, hc⟩
      clear hn hc hdb
      go_enter Try.func159, Try.ntmps159
      go_wp2_with fail
      refine world_any (F := fun W => ∃ W0, RD W0 q { D with due := n } kp U M ∧ w.turned W0 (fun k => k = q) ∧ W = W0.setCell ⟨q, 0, none⟩ (.string ⟨#[]⟩)) ⟨_, rdx_due H.out HN.out.1, turned_set (S := (fun k => k = q)) (World.turned.refl w _) rfl _, rfl⟩ ?_
      rintro W ⟨W0, hW1, hW2, rfl⟩
      have HW1 : Hid (RD W0 q { D with due := n } kp U M) := hW1
      have HW2 : Hid (w.turned W0 (fun k => k = q)) := hW2
      clear q0 q1 q2 q3 q4 q5 q6 q7
      obtain ⟨q0, q1, q2, q3, q4, q5, q6, q7, qf⟩ := rd_cells hW1.blk
      have hqw := hW1.lt
      clear hW1 hW2
      have zk : (W0.setCell ⟨q, 0, none⟩ (.string ⟨#[]⟩)).cell? ⟨q, 0, none⟩ = some (.string ⟨#[]⟩) := by
        simp only [World.cell?, cells_set HW1.out.blk (.string ⟨#[]⟩)]; rfl
      go_region_held3 (fun w' => w'.cell? ⟨q, 0, none⟩ = some (.string ⟨#[]⟩)) (first | exact zk | (simp [go_sem]; assumption) | go_keep) (fail)
      refine world_any (F := fun W => RD W q (({ D with due := n } : Dk).clr 0) kp U M ∧ w.turned W (fun k => k = q)) ⟨rdx_drew (rdx_clr0 HW1.out), (turned_set (S := (fun k => k = q)) (turned_set (S := (fun k => k = q)) HW2.out rfl _) rfl _).drew⟩ ?_
      rintro W ⟨hW1, hW2⟩
      have HW1 : Hid (RD W q (({ D with due := n } : Dk).clr 0) kp U M) := hW1
      have HW2 : Hid (w.turned W (fun k => k = q)) := hW2
      obtain ⟨q0, q1, q2, q3, q4, q5, q6, q7, qf⟩ := rd_cells hW1.blk
      have hqw := hW1.lt
      clear hW1 hW2
      go_wp2_with fail
      go_ret
      have hr : r = (true, ({ D with due := n } : Dk).clr 0) := by
        rw [HR.out]
        have h2 : 2 ≤ D.due := HN.out.2
        have h3 : D.act = (true, ({ D with due := n } : Dk)) := by
          unfold Dk.act
          rw [if_neg (by omega), if_neg (by omega), HN.out.1]
        unfold Dk.cut
        rw [h3]
        rfl
      rw [HX.out, hr]
      exact ⟨rfl, HW1.out, HW2.out⟩
  · rcases hc3 with hc | hc | hc
    · have e1 : ((D.due : Int) == 1) = false := by rw [hc]; rfl
      have e2 : ¬ 0 < D.due := by omega
      obtain ⟨n, hn⟩ : ∃ n, n = D.due - 1 := ⟨_, rfl⟩
      have HN : Hid (n = D.due - 1 ∧ D.due = 0) := ⟨hn, hc⟩
      clear hn hc hdb
      go_enter Try.func159, Try.ntmps159
      go_wp2_with fail
      refine world_any (F := fun W => ∃ W0, RD W0 q D kp U M ∧ w.turned W0 (fun k => k = q) ∧ W = W0.setCell ⟨q, 1, none⟩ (.string ⟨#[]⟩)) ⟨_, H.out, World.turned.refl _ _, rfl⟩ ?_
      rintro W ⟨W0, hW1, hW2, rfl⟩
      have HW1 : Hid (RD W0 q D kp U M) := hW1
      have HW2 : Hid (w.turned W0 (fun k => k = q)) := hW2
      clear q0 q1 q2 q3 q4 q5 q6 q7
      obtain ⟨q0, q1, q2, q3, q4, q5, q6, q7, qf⟩ := rd_cells hW1.blk
      have hqw := hW1.lt
      clear hW1 hW2
      have zk : (W0.setCell ⟨q, 1, none⟩ (.string ⟨#[]⟩)).cell? ⟨q, 1, none⟩ = some (.string ⟨#[]⟩) := by
        simp only [World.cell?, cells_set HW1.out.blk (.string ⟨#[]⟩)]; rfl
      go_region_held3 (fun w' => w'.cell? ⟨q, 1, none⟩ = some (.string ⟨#[]⟩)) (first | exact zk | (simp [go_sem]; assumption) | go_keep) (fail)
      refine world_any (F := fun W => RD W q (D.clr 1) kp U M ∧ w.turned W (fun k => k = q)) ⟨rdx_drew (rdx_clr1 HW1.out), (turned_set (S := (fun k => k = q)) (turned_set (S := (fun k => k = q)) HW2.out rfl _) rfl _).drew⟩ ?_
      rintro W ⟨hW1, hW2⟩
      have HW1 : Hid (RD W q (D.clr 1) kp U M) := hW1
      have HW2 : Hid (w.turned W (fun k => k = q)) := hW2
      obtain ⟨q0, q1, q2, q3, q4, q5, q6, q7, qf⟩ := rd_cells hW1.blk
      have hqw := hW1.lt
      clear hW1 hW2
      go_wp2_with fail
      go_ret
      have hr : r = (true, D.clr 1) := by
        rw [HR.out]
        have h2 : D.due = 0 := HN.out.2
        have h3 : D.act = (true, D) := by
          unfold Dk.act
          rw [if_pos h2]
        unfold Dk.cut
        rw [h3]
        rfl
      rw [HX.out, hr]
      exact ⟨rfl, HW1.out, HW2.out⟩
    · have e1 : ((D.due : Int) == 1) = true := by rw [hc]; rfl
      have e2 : 0 < D.due := by omega
      obtain ⟨n, hn⟩ : ∃ n, n = D.due - 1 := ⟨_, rfl⟩
      have w1 : IntKind.i64.wrap ((D.due : Int) - 1) = (n : Int) := by rw [wrap_id _ (by omega) (by omega)]; omega
      have HN : Hid (n = D.due - 1 ∧ D.due = 1) := ⟨hn, hc⟩
      clear hn hc hdb
      go_enter Try.func159, Try.ntmps159
      go_wp2_with fail
      have HW1 : Hid (RD (w.setCell ⟨q, 4, none⟩ (.int .i64 n)) q { D with due := n } kp U M) := rdx_due H.out HN.out.1
      refine (refCrash _ q _ kp U M HW1.out HLB.out.1 HLB.out.2 kp H.out.kb).mono ?_
      rintro e w9 ⟨rfl, hd9, ht9⟩
      have HD9 : Hid (RD w9 q (({ D with due := n } : Dk).crash kp) kp 0 M) := hd9
      have HT9 : Hid (w.turned w9 (fun k => k = q)) := (turned_set (S := (fun k => k = q)) (World.turned.refl w _) rfl _).trans ht9 fun _ _ h => h
      clear hd9 ht9
      go_wp2_with fail
      go_ret
      have hr : r = (false, ({ D with due := n } : Dk).crash kp) := by
        rw [HR.out, H.out.kq (by have := HN.out.2; omega)]
        have h2 : D.due = 1 := HN.out.2
        have h3 : D.act = (false, D.crash D.keep) := by
          unfold Dk.act
          rw [if_neg (by omega), if_pos h2]
        unfold Dk.cut
        rw [h3]
        rfl
      rw [HX.out, hr]
      exact ⟨rfl, HD9.out, HT9.out⟩
    · have e1 : ((D.due : Int) == 1) = false := by rw [beq_eq_false_iff_ne]; omega
      have e2 : 0 < D.due := by omega
      obtain ⟨n, hn⟩ : ∃ n, n = D.due - 1 := ⟨_, rfl⟩
      have w1 : IntKind.i64.wrap ((D.due : Int) - 1) = (n : Int) := by rw [wrap_id _ (by omega) (by omega)]; omega
      have HN : Hid (n = D.due - 1 ∧ 2 ≤ D.due) := ⟨hn, hc⟩
      clear hn hc hdb
      go_enter Try.func159, Try.ntmps159
      go_wp2_with fail
      refine world_any (F := fun W => ∃ W0, RD W0 q { D with due := n } kp U M ∧ w.turned W0 (fun k => k = q) ∧ W = W0.setCell ⟨q, 1, none⟩ (.string ⟨#[]⟩)) ⟨_, rdx_due H.out HN.out.1, turned_set (S := (fun k => k = q)) (World.turned.refl w _) rfl _, rfl⟩ ?_
      rintro W ⟨W0, hW1, hW2, rfl⟩
      have HW1 : Hid (RD W0 q { D with due := n } kp U M) := hW1
      have HW2 : Hid (w.turned W0 (fun k => k = q)) := hW2
      clear q0 q1 q2 q3 q4 q5 q6 q7
      obtain ⟨q0, q1, q2, q3, q4, q5, q6, q7, qf⟩ := rd_cells hW1.blk
      have hqw := hW1.lt
      clear hW1 hW2
      have zk : (W0.setCell ⟨q, 1, none⟩ (.string ⟨#[]⟩)).cell? ⟨q, 1, none⟩ = some (.string ⟨#[]⟩) := by
        simp only [World.cell?, cells_set HW1.out.blk (.string ⟨#[]⟩)]; rfl
      go_region_held3 (fun w' => w'.cell? ⟨q, 1, none⟩ = some (.string ⟨#[]⟩)) (first | exact zk | (simp [go_sem]; assumption) | go_keep) (fail)
      refine world_any (F := fun W => RD W q (({ D with due := n } : Dk).clr 1) kp U M ∧ w.turned W (fun k => k = q)) ⟨rdx_drew (rdx_clr1 HW1.out), (turned_set (S := (fun k => k = q)) (turned_set (S := (fun k => k = q)) HW2.out rfl _) rfl _).drew⟩ ?_
      rintro W ⟨hW1, hW2⟩
      have HW1 : Hid (RD W q (({ D with due := n } : Dk).clr 1) kp U M) := hW1
      have HW2 : Hid (w.turned W (fun k => k = q)) := hW2
      obtain ⟨q0, q1, q2, q3, q4, q5, q6, q7, qf⟩ := rd_cells hW1.blk
      have hqw := hW1.lt
      clear hW1 hW2
      go_wp2_with fail
      go_ret
      have hr : r = (true, ({ D with due := n } : Dk).clr 1) := by
        rw [HR.out]
        have h2 : 2 ≤ D.due := HN.out.2
        have h3 : D.act = (true, ({ D with due := n } : Dk)) := by
          unfold Dk.act
          rw [if_neg (by omega), if_neg (by omega), HN.out.1]
        unfold Dk.cut
        rw [h3]
        rfl
      rw [HX.out, hr]
      exact ⟨rfl, HW1.out, HW2.out⟩
end Go.Proofs.Ytcbbnmodjnnbeaa
