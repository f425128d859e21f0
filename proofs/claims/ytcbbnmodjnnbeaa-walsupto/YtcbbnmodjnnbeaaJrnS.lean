/- The document's state and State. -/
import Derived.Test.YtcbbnmodjnnbeaaJrnF
import Derived.Test.YtcbbnmodjnnbeaaJrnG
set_option linter.unusedSimpArgs false
set_option linter.unusedVariables false
namespace Go.Proofs.Ytcbbnmodjnnbeaa
open Go.RowKit

set_option maxRecDepth 100000 in
set_option maxHeartbeats 8000000 in
theorem refState0 (w : World) (q y : Nat) (D : Dk) (kp : Int) (U M N c : Nat) (h : RD w q D kp U M) (hy : w.heap[y]? = some (.cells #[.pointer (some ⟨q, 0, none⟩), .int .i64 N, .int .i64 c] 224)) (hc : c = 0 ∨ c = 1) (S : WSt) (rs : List Rec) (hL : Liv D c S rs) (hl : (D.file c).length ≤ 100000000) :
    Calls Try.prog 160 #[.pointer (some ⟨y, 0, none⟩)] w fun e w' => ∃ lv, e = .returned (.agg (S.cellsA lv).toArray) ∧ w'.ownL 135 8 lv (S.log.map Ety.cells) ∧ (∀ k, lv.ownBlock = some k → w.heap.size ≤ k) ∧ Below w.heap.size w w' := by
  obtain ⟨r, l, rfl, hk1, hk⟩ := hL.cons
  obtain ⟨q0, q1, q2, q3, q4, q5, q6, q7, qf⟩ := rd_cells h.blk
  have hq := h.lt
  obtain ⟨z0, z1, z2, zf⟩ := wal3_cells hy
  have hyl : y < w.heap.size := (Array.getElem?_eq_some_iff.1 hy).1
  have hll : l.length ≤ 100000000 := by have h1 := jrnL_len (r :: l); rw [← hL.file] at h1; simp only [List.length_cons] at h1; omega
  have HM : Hid (∀ x ∈ r :: l, x.may = true) := hL.may
  have HK : Hid (∀ x ∈ l, x.kind ≠ 1) := hk
  have HK1 : Hid (r.kind = 1) := hk1
  have HLL : Hid (l.length ≤ 100000000) := hll
  have HSC : Hid (∀ W, Below w.heap.size w W → Calls Try.prog 18 #[.string (B (D.file c))] W fun e w' => ∃ a cap, e = .returned (.tuple #[.slice a (l.length + 1) cap, .int .i64 ((jrnL (r :: l)).length : Nat)]) ∧ w'.reads 14 (.slice a (l.length + 1) cap) ((r :: l).map Rec.cells) ∧ Below W.heap.size W w') := by
    intro W hW
    refine (refScanOf _ W hl).mono ?_
    rintro e w' ⟨v, rfl, ho, hb⟩
    rw [hL.scan] at ho ⊢
    obtain ⟨a, cap, rfl, -, -, -⟩ := ho.cap
    exact ⟨a, cap, rfl, ho.L.reads, hb⟩
  have HTO : Hid (told (r :: l) = S) := hL.told.symm
  have HRD : Hid (RD w q D kp U M) := h
  have HYB : Hid (w.heap[y]? = some (.cells #[.pointer (some ⟨q, 0, none⟩), .int .i64 N, .int .i64 c] 224)) := hy
  clear h hy hL hl hk hk1 hll q0 q1 q2 q3 q4 q5 q6 q7 qf z0 z1 z2 zf
  rcases hc with rfl | rfl
  · simp only [Dk.file, if_pos, if_neg, show ¬ ((1 : Nat) = 0) by decide] at HSC
    go_enter Try.func160, Try.ntmps160
    go_wp2_with fail
    refine world_any (F := fun W => Below w.heap.size w W ∧ W.heap[w.heap.size]? = some (.cells #[.int .i64 0, .int .i64 0, .int .i64 0, .int .i64 0, .int .i64 0, .string ⟨#[]⟩, .slice none 0 0] 90)) ⟨(by repeat (first | exact Below.refl _ _ | assumption | with_reducible refine below_drewN ?_ _ | refine Gr.ext ?_ _ | refine Gr.alloc ?_ _ | refine Gr.drew ?_ | (refine Gr.set ?_ (by first | (simp; done) | (simp; omega)) _))), Hp.new rfl⟩ ?_
    rintro W ⟨hbW, hWr⟩
    have HBW : Hid (Below w.heap.size w W) := hbW
    have HWR : Hid (W.heap[w.heap.size]? = some (.cells #[.int .i64 0, .int .i64 0, .int .i64 0, .int .i64 0, .int .i64 0, .string ⟨#[]⟩, .slice none 0 0] 90)) := hWr
    obtain ⟨q0, q1, -, -, -, -, -, -, qf⟩ := rd_cells (HRD.out.grown hbW).blk
    obtain ⟨z0, z1, z2, zf⟩ := wal3_cells ((hbW.block y hyl).trans HYB.out)
    have hqW : q < W.heap.size := by have := hbW.size; omega
    have hyW : y < W.heap.size := by have := hbW.size; omega
    have hrW : w.heap.size < W.heap.size := (Array.getElem?_eq_some_iff.1 hWr).1
    clear hWr
    go_region_held3 (fun w' => w'.cell? ⟨y, 0, none⟩ = some (.pointer (some ⟨q, 0, none⟩)) ∧ w'.cell? ⟨y, 2, none⟩ = some (.int .i64 (0 : Nat)) ∧ w'.cell? ⟨q, 0, none⟩ = some (.string (B D.b0))) (go_keep)
      (first | (
        go_at_call 18
        refine (HSC.out _ (by repeat (first | exact Below.refl _ _ | assumption | with_reducible refine below_drewN ?_ _ | refine Gr.ext ?_ _ | refine Gr.alloc ?_ _ | refine Gr.drew ?_ | (refine Gr.set ?_ (by first | (simp; done) | (simp; omega)) _)))).mono ?_
        rintro e w1 ⟨a1, cap1, rfl, hrd1, hb1⟩
        have hbd : Below W.heap.size W w1 := belowVia hb1 (by repeat (first | exact Below.refl _ _ | assumption | with_reducible refine below_drewN ?_ _ | refine Gr.ext ?_ _ | refine Gr.alloc ?_ _ | refine Gr.drew ?_ | (refine Gr.set ?_ (by first | (simp; done) | (simp; omega)) _)))
        have k0 := bcellAt hbd hyW z0
        have k2 := bcellAt hbd hyW z2
        have k3 := bcellAt hbd hqW q0))
    have HRD1 : Hid (w1.reads 14 (.slice a1 (l.length + 1) cap1) ((r :: l).map Rec.cells)) := hrd1
    have HB1 : Hid (Below W.heap.size W w1) := hbd
    have HR1 : Hid (w1.heap[w.heap.size]? = some (.cells #[.int .i64 0, .int .i64 0, .int .i64 0, .int .i64 0, .int .i64 0, .string ⟨#[]⟩, .slice none 0 0] 90)) := (hbd.block _ hrW).trans HWR.out
    obtain ⟨n, hn⟩ : ∃ n, n = l.length + 1 := ⟨_, rfl⟩
    have HT : Hid (Calls Try.prog 178 #[.slice a1 n cap1] w1 fun e w' => ∃ lv, e = .returned (.agg (S.cellsA lv).toArray) ∧ w'.ownL 135 8 lv (S.log.map Ety.cells) ∧ (∀ k, lv.ownBlock = some k → w1.heap.size ≤ k) ∧ Below w1.heap.size w1 w') := by
      have h := refTold w1 a1 cap1 r l HRD1.out HM.out HK.out HK1.out HLL.out
      rw [HTO.out, ← hn] at h
      exact h
    rw [← hn]
    clear hrd1 hb1 hbd k0 k2 k3 hn
    go_wp2_with fail
    refine HT.out.mono ?_
    rintro e w2 ⟨lv, rfl, hol, hlk, hb2⟩
    have HOL0 := hol
    obtain ⟨la, lc, hv⟩ := hol.len
    rw [List.length_map] at hv
    obtain ⟨m, hm⟩ : ∃ m, m = S.log.length := ⟨_, rfl⟩
    rw [← hm] at hv
    subst hv
    have HOL : Hid (w2.ownL 135 8 (.slice la m lc) (S.log.map Ety.cells)) := hol
    have h1s : w.heap.size < w1.heap.size := by have := HB1.out.size; omega
    have HLK : Hid (∀ k, (Value.slice la m lc).ownBlock = some k → w.heap.size < k) := fun k hk => by have := hlk k hk; omega
    have HRZ : Hid (w2.heap[w.heap.size]? = some (.cells #[.int .i64 0, .int .i64 0, .int .i64 0, .int .i64 0, .int .i64 0, .string ⟨#[]⟩, .slice none 0 0] 90)) := (hb2.block _ h1s).trans HR1.out
    have HB2 : Hid (Below w.heap.size w w2) := HBW.out.trans ((HB1.out.trans (hb2.mono HB1.out.size)).mono HBW.out.size)
    unfold WSt.cellsA
    clear HOL0 hol hlk hb2 hm z0 z1 z2 zf q0 q1 qf
    have z0 : w2.cell? ⟨w.heap.size, 0, none⟩ = some (.int .i64 0) := by simp only [World.cell?, HRZ.out]; rfl
    have z1 : w2.cell? ⟨w.heap.size, 1, none⟩ = some (.int .i64 0) := by simp only [World.cell?, HRZ.out]; rfl
    have z2 : w2.cell? ⟨w.heap.size, 2, none⟩ = some (.int .i64 0) := by simp only [World.cell?, HRZ.out]; rfl
    have z3 : w2.cell? ⟨w.heap.size, 3, none⟩ = some (.int .i64 0) := by simp only [World.cell?, HRZ.out]; rfl
    have z4 : w2.cell? ⟨w.heap.size, 4, none⟩ = some (.int .i64 0) := by simp only [World.cell?, HRZ.out]; rfl
    have z5 : w2.cell? ⟨w.heap.size, 5, none⟩ = some (.string ⟨#[]⟩) := by simp only [World.cell?, HRZ.out]; rfl
    have z6 : w2.cell? ⟨w.heap.size, 6, none⟩ = some (.slice none 0 0) := by simp only [World.cell?, HRZ.out]; rfl
    have zf : ∀ o, w2.frozen? ⟨w.heap.size, o, none⟩ = false := fun o => by simp [World.frozen?, HRZ.out]
    have hwl : w.heap.size < w2.heap.size := (Array.getElem?_eq_some_iff.1 HRZ.out).1
    go_wp2_with fail
    refine world_any (F := fun W => W.heap[w.heap.size]? = some (.cells #[.int .i64 S.gen, .int .i64 S.term, .int .i64 S.vote, .int .i64 S.base, .int .i64 S.bterm, .string S.data, .slice la m lc] 90) ∧ w2.turned W (fun x => x = w.heap.size)) ⟨?_, ?_⟩ ?_
    · refine (cells_set (cells_set (cells_set (cells_set (cells_set (cells_set (cells_set HRZ.out _) _) _) _) _) _) _).trans ?_
      simp only [List.setIfInBounds_toArray, List.set_cons_succ, List.set_cons_zero]
    · exact turned_set (S := fun x => x = w.heap.size) (turned_set (S := fun x => x = w.heap.size) (turned_set (S := fun x => x = w.heap.size) (turned_set (S := fun x => x = w.heap.size) (turned_set (S := fun x => x = w.heap.size) (turned_set (S := fun x => x = w.heap.size) (turned_set (S := fun x => x = w.heap.size) (World.turned.refl w2 _) rfl _) rfl _) rfl _) rfl _) rfl _) rfl _) rfl _
    rintro W ⟨hW1, hW2⟩
    have v0 : W.cell? ⟨w.heap.size, 0, none⟩ = some (.int .i64 S.gen) := by simp only [World.cell?, hW1]; rfl
    have v1 : W.cell? ⟨w.heap.size, 1, none⟩ = some (.int .i64 S.term) := by simp only [World.cell?, hW1]; rfl
    have v2 : W.cell? ⟨w.heap.size, 2, none⟩ = some (.int .i64 S.vote) := by simp only [World.cell?, hW1]; rfl
    have v3 : W.cell? ⟨w.heap.size, 3, none⟩ = some (.int .i64 S.base) := by simp only [World.cell?, hW1]; rfl
    have v4 : W.cell? ⟨w.heap.size, 4, none⟩ = some (.int .i64 S.bterm) := by simp only [World.cell?, hW1]; rfl
    have v5 : W.cell? ⟨w.heap.size, 5, none⟩ = some (.string S.data) := by simp only [World.cell?, hW1]; rfl
    have v6 : W.cell? ⟨w.heap.size, 6, none⟩ = some (.slice la m lc) := by simp only [World.cell?, hW1]; rfl
    have hbw : Below w.heap.size w W := ⟨hW2.os.trans HB2.out.os, hW2.tape.trans HB2.out.tape, hW2.output.trans HB2.out.output, Nat.le_trans HB2.out.size hW2.size, fun k hk => (hW2.block k (by omega) (by omega)).trans (HB2.out.block k hk)⟩
    exact bodyPost_ret (v := .agg #[.int .i64 S.gen, .int .i64 S.term, .int .i64 S.vote, .int .i64 S.base, .int .i64 S.bterm, .string S.data, .slice la m lc]) (by simp [results, Try.results160, go_sem, v0, v1, v2, v3, v4, v5, v6]) rfl ⟨_, rfl, HOL.out.keep fun x hx => hW2.block x (HOL.out.lt hx) (fun e => by have := HLK.out x hx; omega), fun x hx => by have := HLK.out x hx; omega, hbw⟩
  · simp only [Dk.file, if_pos, if_neg, show ¬ ((1 : Nat) = 0) by decide] at HSC
    go_enter Try.func160, Try.ntmps160
    go_wp2_with fail
    refine world_any (F := fun W => Below w.heap.size w W ∧ W.heap[w.heap.size]? = some (.cells #[.int .i64 0, .int .i64 0, .int .i64 0, .int .i64 0, .int .i64 0, .string ⟨#[]⟩, .slice none 0 0] 90)) ⟨(by repeat (first | exact Below.refl _ _ | assumption | with_reducible refine below_drewN ?_ _ | refine Gr.ext ?_ _ | refine Gr.alloc ?_ _ | refine Gr.drew ?_ | (refine Gr.set ?_ (by first | (simp; done) | (simp; omega)) _))), Hp.new rfl⟩ ?_
    rintro W ⟨hbW, hWr⟩
    have HBW : Hid (Below w.heap.size w W) := hbW
    have HWR : Hid (W.heap[w.heap.size]? = some (.cells #[.int .i64 0, .int .i64 0, .int .i64 0, .int .i64 0, .int .i64 0, .string ⟨#[]⟩, .slice none 0 0] 90)) := hWr
    obtain ⟨q0, q1, -, -, -, -, -, -, qf⟩ := rd_cells (HRD.out.grown hbW).blk
    obtain ⟨z0, z1, z2, zf⟩ := wal3_cells ((hbW.block y hyl).trans HYB.out)
    have hqW : q < W.heap.size := by have := hbW.size; omega
    have hyW : y < W.heap.size := by have := hbW.size; omega
    have hrW : w.heap.size < W.heap.size := (Array.getElem?_eq_some_iff.1 hWr).1
    clear hWr
    go_region_held3 (fun w' => w'.cell? ⟨y, 0, none⟩ = some (.pointer (some ⟨q, 0, none⟩)) ∧ w'.cell? ⟨y, 2, none⟩ = some (.int .i64 (1 : Nat)) ∧ w'.cell? ⟨q, 1, none⟩ = some (.string (B D.b1))) (go_keep)
      (first | (
        go_at_call 18
        refine (HSC.out _ (by repeat (first | exact Below.refl _ _ | assumption | with_reducible refine below_drewN ?_ _ | refine Gr.ext ?_ _ | refine Gr.alloc ?_ _ | refine Gr.drew ?_ | (refine Gr.set ?_ (by first | (simp; done) | (simp; omega)) _)))).mono ?_
        rintro e w1 ⟨a1, cap1, rfl, hrd1, hb1⟩
        have hbd : Below W.heap.size W w1 := belowVia hb1 (by repeat (first | exact Below.refl _ _ | assumption | with_reducible refine below_drewN ?_ _ | refine Gr.ext ?_ _ | refine Gr.alloc ?_ _ | refine Gr.drew ?_ | (refine Gr.set ?_ (by first | (simp; done) | (simp; omega)) _)))
        have k0 := bcellAt hbd hyW z0
        have k2 := bcellAt hbd hyW z2
        have k3 := bcellAt hbd hqW q1))
    have HRD1 : Hid (w1.reads 14 (.slice a1 (l.length + 1) cap1) ((r :: l).map Rec.cells)) := hrd1
    have HB1 : Hid (Below W.heap.size W w1) := hbd
    have HR1 : Hid (w1.heap[w.heap.size]? = some (.cells #[.int .i64 0, .int .i64 0, .int .i64 0, .int .i64 0, .int .i64 0, .string ⟨#[]⟩, .slice none 0 0] 90)) := (hbd.block _ hrW).trans HWR.out
    obtain ⟨n, hn⟩ : ∃ n, n = l.length + 1 := ⟨_, rfl⟩
    have HT : Hid (Calls Try.prog 178 #[.slice a1 n cap1] w1 fun e w' => ∃ lv, e = .returned (.agg (S.cellsA lv).toArray) ∧ w'.ownL 135 8 lv (S.log.map Ety.cells) ∧ (∀ k, lv.ownBlock = some k → w1.heap.size ≤ k) ∧ Below w1.heap.size w1 w') := by
      have h := refTold w1 a1 cap1 r l HRD1.out HM.out HK.out HK1.out HLL.out
      rw [HTO.out, ← hn] at h
      exact h
    rw [← hn]
    clear hrd1 hb1 hbd k0 k2 k3 hn
    go_wp2_with fail
    refine HT.out.mono ?_
    rintro e w2 ⟨lv, rfl, hol, hlk, hb2⟩
    have HOL0 := hol
    obtain ⟨la, lc, hv⟩ := hol.len
    rw [List.length_map] at hv
    obtain ⟨m, hm⟩ : ∃ m, m = S.log.length := ⟨_, rfl⟩
    rw [← hm] at hv
    subst hv
    have HOL : Hid (w2.ownL 135 8 (.slice la m lc) (S.log.map Ety.cells)) := hol
    have h1s : w.heap.size < w1.heap.size := by have := HB1.out.size; omega
    have HLK : Hid (∀ k, (Value.slice la m lc).ownBlock = some k → w.heap.size < k) := fun k hk => by have := hlk k hk; omega
    have HRZ : Hid (w2.heap[w.heap.size]? = some (.cells #[.int .i64 0, .int .i64 0, .int .i64 0, .int .i64 0, .int .i64 0, .string ⟨#[]⟩, .slice none 0 0] 90)) := (hb2.block _ h1s).trans HR1.out
    have HB2 : Hid (Below w.heap.size w w2) := HBW.out.trans ((HB1.out.trans (hb2.mono HB1.out.size)).mono HBW.out.size)
    unfold WSt.cellsA
    clear HOL0 hol hlk hb2 hm z0 z1 z2 zf q0 q1 qf
    have z0 : w2.cell? ⟨w.heap.size, 0, none⟩ = some (.int .i64 0) := by simp only [World.cell?, HRZ.out]; rfl
    have z1 : w2.cell? ⟨w.heap.size, 1, none⟩ = some (.int .i64 0) := by simp only [World.cell?, HRZ.out]; rfl
    have z2 : w2.cell? ⟨w.heap.size, 2, none⟩ = some (.int .i64 0) := by simp only [World.cell?, HRZ.out]; rfl
    have z3 : w2.cell? ⟨w.heap.size, 3, none⟩ = some (.int .i64 0) := by simp only [World.cell?, HRZ.out]; rfl
    have z4 : w2.cell? ⟨w.heap.size, 4, none⟩ = some (.int .i64 0) := by simp only [World.cell?, HRZ.out]; rfl
    have z5 : w2.cell? ⟨w.heap.size, 5, none⟩ = some (.string ⟨#[]⟩) := by simp only [World.cell?, HRZ.out]; rfl
    have z6 : w2.cell? ⟨w.heap.size, 6, none⟩ = some (.slice none 0 0) := by simp only [World.cell?, HRZ.out]; rfl
    have zf : ∀ o, w2.frozen? ⟨w.heap.size, o, none⟩ = false := fun o => by simp [World.frozen?, HRZ.out]
    have hwl : w.heap.size < w2.heap.size := (Array.getElem?_eq_some_iff.1 HRZ.out).1
    go_wp2_with fail
    refine world_any (F := fun W => W.heap[w.heap.size]? = some (.cells #[.int .i64 S.gen, .int .i64 S.term, .int .i64 S.vote, .int .i64 S.base, .int .i64 S.bterm, .string S.data, .slice la m lc] 90) ∧ w2.turned W (fun x => x = w.heap.size)) ⟨?_, ?_⟩ ?_
    · refine (cells_set (cells_set (cells_set (cells_set (cells_set (cells_set (cells_set HRZ.out _) _) _) _) _) _) _).trans ?_
      simp only [List.setIfInBounds_toArray, List.set_cons_succ, List.set_cons_zero]
    · exact turned_set (S := fun x => x = w.heap.size) (turned_set (S := fun x => x = w.heap.size) (turned_set (S := fun x => x = w.heap.size) (turned_set (S := fun x => x = w.heap.size) (turned_set (S := fun x => x = w.heap.size) (turned_set (S := fun x => x = w.heap.size) (turned_set (S := fun x => x = w.heap.size) (World.turned.refl w2 _) rfl _) rfl _) rfl _) rfl _) rfl _) rfl _) rfl _
    rintro W ⟨hW1, hW2⟩
    have v0 : W.cell? ⟨w.heap.size, 0, none⟩ = some (.int .i64 S.gen) := by simp only [World.cell?, hW1]; rfl
    have v1 : W.cell? ⟨w.heap.size, 1, none⟩ = some (.int .i64 S.term) := by simp only [World.cell?, hW1]; rfl
    have v2 : W.cell? ⟨w.heap.size, 2, none⟩ = some (.int .i64 S.vote) := by simp only [World.cell?, hW1]; rfl
    have v3 : W.cell? ⟨w.heap.size, 3, none⟩ = some (.int .i64 S.base) := by simp only [World.cell?, hW1]; rfl
    have v4 : W.cell? ⟨w.heap.size, 4, none⟩ = some (.int .i64 S.bterm) := by simp only [World.cell?, hW1]; rfl
    have v5 : W.cell? ⟨w.heap.size, 5, none⟩ = some (.string S.data) := by simp only [World.cell?, hW1]; rfl
    have v6 : W.cell? ⟨w.heap.size, 6, none⟩ = some (.slice la m lc) := by simp only [World.cell?, hW1]; rfl
    have hbw : Below w.heap.size w W := ⟨hW2.os.trans HB2.out.os, hW2.tape.trans HB2.out.tape, hW2.output.trans HB2.out.output, Nat.le_trans HB2.out.size hW2.size, fun k hk => (hW2.block k (by omega) (by omega)).trans (HB2.out.block k hk)⟩
    exact bodyPost_ret (v := .agg #[.int .i64 S.gen, .int .i64 S.term, .int .i64 S.vote, .int .i64 S.base, .int .i64 S.bterm, .string S.data, .slice la m lc]) (by simp [results, Try.results160, go_sem, v0, v1, v2, v3, v4, v5, v6]) rfl ⟨_, rfl, HOL.out.keep fun x hx => hW2.block x (HOL.out.lt hx) (fun e => by have := HLK.out x hx; omega), fun x hx => by have := HLK.out x hx; omega, hbw⟩
set_option maxRecDepth 100000 in
set_option maxHeartbeats 8000000 in
theorem refState (w : World) (q y : Nat) (D : Dk) (kp : Int) (U M c : Nat) (h : RD w q D kp U M) (hy : w.heap[y]? = some (.cells #[.pointer (some ⟨q, 0, none⟩), .int .i64 U, .int .i64 c] 224)) (hc : c = 0 ∨ c = 1) (S : WSt) (rs : List Rec) (hL : Liv D c S rs) (hl : (D.file c).length ≤ 100000000) :
    Calls Try.prog 136 #[.pointer (some ⟨y, 0, none⟩)] w fun e w' => ∃ lv, e = .returned (.tuple #[.agg (S.cellsA lv).toArray, .int .i64 0]) ∧ w'.ownL 135 8 lv (S.log.map Ety.cells) ∧ (∀ k, lv.ownBlock = some k → w.heap.size ≤ k) ∧ Below w.heap.size w w' := by
  have hyl : y < w.heap.size := (Array.getElem?_eq_some_iff.1 hy).1
  have HRD : Hid (RD w q D kp U M) := h
  have HYB : Hid (w.heap[y]? = some (.cells #[.pointer (some ⟨q, 0, none⟩), .int .i64 U, .int .i64 c] 224)) := hy
  have HC : Hid (c = 0 ∨ c = 1) := hc
  have HLV : Hid (Liv D c S rs) := hL
  have HL : Hid ((D.file c).length ≤ 100000000) := hl
  clear h hy hc hL hl
  go_enter Try.func136, Try.ntmps136
  go_wp2_with fail
  obtain ⟨W, hWeq⟩ : ∃ W, W = w.alloc (.cells #[.int .i64 0, .int .i64 0, .int .i64 0, .int .i64 0, .int .i64 0, .string ⟨#[]⟩, .slice none 0 0] 90) := ⟨_, rfl⟩
  rw [← hWeq]
  have hbW : Below w.heap.size w W := by rw [hWeq]; exact (by repeat (first | exact Below.refl _ _ | assumption | with_reducible refine below_drewN ?_ _ | refine Gr.ext ?_ _ | refine Gr.alloc ?_ _ | refine Gr.drew ?_ | (refine Gr.set ?_ (by first | (simp; done) | (simp; omega)) _)))
  have hWr : W.heap[w.heap.size]? = some (.cells #[.int .i64 0, .int .i64 0, .int .i64 0, .int .i64 0, .int .i64 0, .string ⟨#[]⟩, .slice none 0 0] 90) := by rw [hWeq]; exact Hp.new rfl
  clear hWeq
  have HBW : Hid (Below w.heap.size w W) := hbW
  have HWR : Hid (W.heap[w.heap.size]? = some (.cells #[.int .i64 0, .int .i64 0, .int .i64 0, .int .i64 0, .int .i64 0, .string ⟨#[]⟩, .slice none 0 0] 90)) := hWr
  have HOV := refOver W q y D kp U M U c (HRD.out.grown hbW) ((hbW.block y hyl).trans HYB.out)
  rw [show (U != U) = false by simp] at HOV
  have HOV' : Hid (Calls Try.prog 158 #[.pointer (some ⟨y, 0, none⟩)] W fun e w' => e = .returned (.bool false) ∧ Below W.heap.size W w') := HOV
  have hrW : w.heap.size < W.heap.size := (Array.getElem?_eq_some_iff.1 hWr).1
  clear hWr hbW HOV
  go_wp2_with fail
  refine HOV'.out.mono ?_
  rintro e w1 ⟨rfl, hb1⟩
  have HB1 : Hid (Below W.heap.size W w1) := hb1
  have hbw1 : Below w.heap.size w w1 := belowVia hb1 HBW.out
  have HT := refState0 w1 q y D kp U M U c (HRD.out.grown hbw1) ((hbw1.block y hyl).trans HYB.out) HC.out S rs HLV.out HL.out
  have HT' : Hid (Calls Try.prog 160 #[.pointer (some ⟨y, 0, none⟩)] w1 fun e w' => ∃ lv, e = .returned (.agg (S.cellsA lv).toArray) ∧ w'.ownL 135 8 lv (S.log.map Ety.cells) ∧ (∀ k, lv.ownBlock = some k → w1.heap.size ≤ k) ∧ Below w1.heap.size w1 w') := HT
  have HR1 : Hid (w1.heap[w.heap.size]? = some (.cells #[.int .i64 0, .int .i64 0, .int .i64 0, .int .i64 0, .int .i64 0, .string ⟨#[]⟩, .slice none 0 0] 90)) := (hb1.block _ hrW).trans HWR.out
  clear hb1 hbw1 HOV' HT
  go_wp2_with fail
  refine HT'.out.mono ?_
  rintro e w2 ⟨lv, rfl, hol, hlk, hb2⟩
  obtain ⟨la, lc, hv⟩ := hol.len
  rw [List.length_map] at hv
  obtain ⟨m, hm⟩ : ∃ m, m = S.log.length := ⟨_, rfl⟩
  rw [← hm] at hv
  subst hv
  have HOL : Hid (w2.ownL 135 8 (.slice la m lc) (S.log.map Ety.cells)) := hol
  have h1s : w.heap.size < w1.heap.size := by have := HB1.out.size; omega
  have HLK : Hid (∀ k, (Value.slice la m lc).ownBlock = some k → w.heap.size < k) := fun k hk => by have := hlk k hk; omega
  have HRZ : Hid (w2.heap[w.heap.size]? = some (.cells #[.int .i64 0, .int .i64 0, .int .i64 0, .int .i64 0, .int .i64 0, .string ⟨#[]⟩, .slice none 0 0] 90)) := (hb2.block _ h1s).trans HR1.out
  have HB2 : Hid (Below w.heap.size w w2) := HBW.out.trans ((HB1.out.trans (hb2.mono HB1.out.size)).mono HBW.out.size)
  unfold WSt.cellsA
  clear hol hlk hb2 hm
  have z0 : w2.cell? ⟨w.heap.size, 0, none⟩ = some (.int .i64 0) := by simp only [World.cell?, HRZ.out]; rfl
  have z1 : w2.cell? ⟨w.heap.size, 1, none⟩ = some (.int .i64 0) := by simp only [World.cell?, HRZ.out]; rfl
  have z2 : w2.cell? ⟨w.heap.size, 2, none⟩ = some (.int .i64 0) := by simp only [World.cell?, HRZ.out]; rfl
  have z3 : w2.cell? ⟨w.heap.size, 3, none⟩ = some (.int .i64 0) := by simp only [World.cell?, HRZ.out]; rfl
  have z4 : w2.cell? ⟨w.heap.size, 4, none⟩ = some (.int .i64 0) := by simp only [World.cell?, HRZ.out]; rfl
  have z5 : w2.cell? ⟨w.heap.size, 5, none⟩ = some (.string ⟨#[]⟩) := by simp only [World.cell?, HRZ.out]; rfl
  have z6 : w2.cell? ⟨w.heap.size, 6, none⟩ = some (.slice none 0 0) := by simp only [World.cell?, HRZ.out]; rfl
  have zf : ∀ o, w2.frozen? ⟨w.heap.size, o, none⟩ = false := fun o => by simp [World.frozen?, HRZ.out]
  have hwl : w.heap.size < w2.heap.size := (Array.getElem?_eq_some_iff.1 HRZ.out).1
  go_wp2_with fail
  refine world_any (F := fun W => W.heap[w.heap.size]? = some (.cells #[.int .i64 S.gen, .int .i64 S.term, .int .i64 S.vote, .int .i64 S.base, .int .i64 S.bterm, .string S.data, .slice la m lc] 90) ∧ w2.turned W (fun x => x = w.heap.size)) ⟨?_, ?_⟩ ?_
  · refine (cells_set (cells_set (cells_set (cells_set (cells_set (cells_set (cells_set HRZ.out _) _) _) _) _) _) _).trans ?_
    simp only [List.setIfInBounds_toArray, List.set_cons_succ, List.set_cons_zero]
  · exact turned_set (S := fun x => x = w.heap.size) (turned_set (S := fun x => x = w.heap.size) (turned_set (S := fun x => x = w.heap.size) (turned_set (S := fun x => x = w.heap.size) (turned_set (S := fun x => x = w.heap.size) (turned_set (S := fun x => x = w.heap.size) (turned_set (S := fun x => x = w.heap.size) (World.turned.refl w2 _) rfl _) rfl _) rfl _) rfl _) rfl _) rfl _) rfl _
  rintro W ⟨hW1, hW2⟩
  have v0 : W.cell? ⟨w.heap.size, 0, none⟩ = some (.int .i64 S.gen) := by simp only [World.cell?, hW1]; rfl
  have v1 : W.cell? ⟨w.heap.size, 1, none⟩ = some (.int .i64 S.term) := by simp only [World.cell?, hW1]; rfl
  have v2 : W.cell? ⟨w.heap.size, 2, none⟩ = some (.int .i64 S.vote) := by simp only [World.cell?, hW1]; rfl
  have v3 : W.cell? ⟨w.heap.size, 3, none⟩ = some (.int .i64 S.base) := by simp only [World.cell?, hW1]; rfl
  have v4 : W.cell? ⟨w.heap.size, 4, none⟩ = some (.int .i64 S.bterm) := by simp only [World.cell?, hW1]; rfl
  have v5 : W.cell? ⟨w.heap.size, 5, none⟩ = some (.string S.data) := by simp only [World.cell?, hW1]; rfl
  have v6 : W.cell? ⟨w.heap.size, 6, none⟩ = some (.slice la m lc) := by simp only [World.cell?, hW1]; rfl
  have hbw : Below w.heap.size w W := ⟨hW2.os.trans HB2.out.os, hW2.tape.trans HB2.out.tape, hW2.output.trans HB2.out.output, Nat.le_trans HB2.out.size hW2.size, fun k hk => (hW2.block k (by omega) (by omega)).trans (HB2.out.block k hk)⟩
  exact bodyPost_ret (v := .tuple #[.agg #[.int .i64 S.gen, .int .i64 S.term, .int .i64 S.vote, .int .i64 S.base, .int .i64 S.bterm, .string S.data, .slice la m lc], .int .i64 0]) (by simp [results, Try.results136, go_sem, v0, v1, v2, v3, v4, v5, v6]) rfl ⟨_, rfl, HOL.out.keep fun x hx => hW2.block x (HOL.out.lt hx) (fun e => by have := HLK.out x hx; omega), fun x hx => by have := HLK.out x hx; omega, hbw⟩
set_option maxRecDepth 100000 in
set_option maxHeartbeats 8000000 in
theorem refStateOver (w : World) (q y : Nat) (D : Dk) (kp : Int) (U M N c : Nat) (h : RD w q D kp U M) (hy : w.heap[y]? = some (.cells #[.pointer (some ⟨q, 0, none⟩), .int .i64 N, .int .i64 c] 224)) (hU : U ≠ N) :
    Calls Try.prog 136 #[.pointer (some ⟨y, 0, none⟩)] w fun e w' => e = .returned (.tuple #[.agg (WSt.zero.cellsA (.slice none 0 0)).toArray, .int .i64 4]) ∧ Below w.heap.size w w' := by
  have hyl : y < w.heap.size := (Array.getElem?_eq_some_iff.1 hy).1
  have HRD : Hid (RD w q D kp U M) := h
  have HYB : Hid (w.heap[y]? = some (.cells #[.pointer (some ⟨q, 0, none⟩), .int .i64 N, .int .i64 c] 224)) := hy
  have HU : Hid (U ≠ N) := hU
  clear h hy hU
  go_enter Try.func136, Try.ntmps136
  go_wp2_with fail
  obtain ⟨W, hWeq⟩ : ∃ W, W = w.alloc (.cells #[.int .i64 0, .int .i64 0, .int .i64 0, .int .i64 0, .int .i64 0, .string ⟨#[]⟩, .slice none 0 0] 90) := ⟨_, rfl⟩
  rw [← hWeq]
  have hbW : Below w.heap.size w W := by rw [hWeq]; exact (by repeat (first | exact Below.refl _ _ | assumption | with_reducible refine below_drewN ?_ _ | refine Gr.ext ?_ _ | refine Gr.alloc ?_ _ | refine Gr.drew ?_ | (refine Gr.set ?_ (by first | (simp; done) | (simp; omega)) _)))
  have hWr : W.heap[w.heap.size]? = some (.cells #[.int .i64 0, .int .i64 0, .int .i64 0, .int .i64 0, .int .i64 0, .string ⟨#[]⟩, .slice none 0 0] 90) := by rw [hWeq]; exact Hp.new rfl
  clear hWeq
  have HBW : Hid (Below w.heap.size w W) := hbW
  have HWR : Hid (W.heap[w.heap.size]? = some (.cells #[.int .i64 0, .int .i64 0, .int .i64 0, .int .i64 0, .int .i64 0, .string ⟨#[]⟩, .slice none 0 0] 90)) := hWr
  have HOV := refOver W q y D kp U M N c (HRD.out.grown hbW) ((hbW.block y hyl).trans HYB.out)
  rw [show (U != N) = true by simp [HU.out]] at HOV
  have HOV' : Hid (Calls Try.prog 158 #[.pointer (some ⟨y, 0, none⟩)] W fun e w' => e = .returned (.bool true) ∧ Below W.heap.size W w') := HOV
  have hrW : w.heap.size < W.heap.size := (Array.getElem?_eq_some_iff.1 hWr).1
  clear hWr hbW HOV
  go_wp2_with fail
  refine HOV'.out.mono ?_
  rintro e w2 ⟨rfl, hb1⟩
  have HB2 : Hid (Below w.heap.size w w2) := belowVia hb1 HBW.out
  have HRZ : Hid (w2.heap[w.heap.size]? = some (.cells #[.int .i64 0, .int .i64 0, .int .i64 0, .int .i64 0, .int .i64 0, .string ⟨#[]⟩, .slice none 0 0] 90)) := (hb1.block _ hrW).trans HWR.out
  clear hb1 HOV'
  have z0 : w2.cell? ⟨w.heap.size, 0, none⟩ = some (.int .i64 0) := by simp only [World.cell?, HRZ.out]; rfl
  have z1 : w2.cell? ⟨w.heap.size, 1, none⟩ = some (.int .i64 0) := by simp only [World.cell?, HRZ.out]; rfl
  have z2 : w2.cell? ⟨w.heap.size, 2, none⟩ = some (.int .i64 0) := by simp only [World.cell?, HRZ.out]; rfl
  have z3 : w2.cell? ⟨w.heap.size, 3, none⟩ = some (.int .i64 0) := by simp only [World.cell?, HRZ.out]; rfl
  have z4 : w2.cell? ⟨w.heap.size, 4, none⟩ = some (.int .i64 0) := by simp only [World.cell?, HRZ.out]; rfl
  have z5 : w2.cell? ⟨w.heap.size, 5, none⟩ = some (.string ⟨#[]⟩) := by simp only [World.cell?, HRZ.out]; rfl
  have z6 : w2.cell? ⟨w.heap.size, 6, none⟩ = some (.slice none 0 0) := by simp only [World.cell?, HRZ.out]; rfl
  have zf : ∀ o, w2.frozen? ⟨w.heap.size, o, none⟩ = false := fun o => by simp [World.frozen?, HRZ.out]
  have hwl : w.heap.size < w2.heap.size := (Array.getElem?_eq_some_iff.1 HRZ.out).1
  go_wp2_with fail
  refine world_any (F := fun W => W.heap[w.heap.size]? = some (.cells #[.int .i64 0, .int .i64 0, .int .i64 0, .int .i64 0, .int .i64 0, .string ⟨#[]⟩, .slice none 0 0] 90) ∧ w2.turned W (fun x => x = w.heap.size)) ⟨?_, ?_⟩ ?_
  · refine (cells_set (cells_set (cells_set (cells_set (cells_set (cells_set (cells_set HRZ.out _) _) _) _) _) _) _).trans ?_
    simp only [List.setIfInBounds_toArray, List.set_cons_succ, List.set_cons_zero]
  · exact turned_set (S := fun x => x = w.heap.size) (turned_set (S := fun x => x = w.heap.size) (turned_set (S := fun x => x = w.heap.size) (turned_set (S := fun x => x = w.heap.size) (turned_set (S := fun x => x = w.heap.size) (turned_set (S := fun x => x = w.heap.size) (turned_set (S := fun x => x = w.heap.size) (World.turned.refl w2 _) rfl _) rfl _) rfl _) rfl _) rfl _) rfl _) rfl _
  rintro W ⟨hW1, hW2⟩
  have v0 : W.cell? ⟨w.heap.size, 0, none⟩ = some (.int .i64 0) := by simp only [World.cell?, hW1]; rfl
  have v1 : W.cell? ⟨w.heap.size, 1, none⟩ = some (.int .i64 0) := by simp only [World.cell?, hW1]; rfl
  have v2 : W.cell? ⟨w.heap.size, 2, none⟩ = some (.int .i64 0) := by simp only [World.cell?, hW1]; rfl
  have v3 : W.cell? ⟨w.heap.size, 3, none⟩ = some (.int .i64 0) := by simp only [World.cell?, hW1]; rfl
  have v4 : W.cell? ⟨w.heap.size, 4, none⟩ = some (.int .i64 0) := by simp only [World.cell?, hW1]; rfl
  have v5 : W.cell? ⟨w.heap.size, 5, none⟩ = some (.string ⟨#[]⟩) := by simp only [World.cell?, hW1]; rfl
  have v6 : W.cell? ⟨w.heap.size, 6, none⟩ = some (.slice none 0 0) := by simp only [World.cell?, hW1]; rfl
  have hbw : Below w.heap.size w W := ⟨hW2.os.trans HB2.out.os, hW2.tape.trans HB2.out.tape, hW2.output.trans HB2.out.output, Nat.le_trans HB2.out.size hW2.size, fun k hk => (hW2.block k (by omega) (by omega)).trans (HB2.out.block k hk)⟩
  exact bodyPost_ret (v := .tuple #[.agg #[.int .i64 0, .int .i64 0, .int .i64 0, .int .i64 0, .int .i64 0, .string ⟨#[]⟩, .slice none 0 0], .int .i64 4]) (by simp [results, Try.results136, go_sem, v0, v1, v2, v3, v4, v5, v6]) rfl ⟨rfl, hbw⟩
end Go.Proofs.Ytcbbnmodjnnbeaa
