/- The document's Open. -/
import Derived.Test.YtcbbnmodjnnbeaaJrnG
import Derived.Test.YtcbbnmodjnnbeaaHeldM
set_option linter.unusedSimpArgs false
set_option linter.unusedVariables false
namespace Go.Proofs.Ytcbbnmodjnnbeaa
open Go.RowKit

theorem based_zero {l : List Rec} (hm : ∀ r ∈ l, r.may = true) : (basedN l == 0) = !countsB l := by
  unfold basedN
  cases h : countsB l with
  | false => rfl
  | true =>
    have := counts_gen h hm
    rw [if_pos rfl]
    show ((l.headD Rec.zero).gen == 0) = false
    rw [beq_eq_false_iff_ne]; omega
theorem found_eq (D : Dk) : D.found = if (basedN (scanA D.b0).1 == 0) = true ∧ (basedN (scanA D.b1).1 == 0) = true then (0, [beginR]) else if basedN (scanA D.b0).1 < basedN (scanA D.b1).1 then (1, (scanA D.b1).1) else (0, (scanA D.b0).1) := by
  have m0 := (scanA_back D.b0).2
  have m1 := (scanA_back D.b1).2
  rw [based_zero m0, based_zero m1]
  unfold Dk.found basedN
  generalize (scanA D.b0).1 = a at *
  generalize (scanA D.b1).1 = b at *
  have g0 := fun h0 => counts_gen (l := a) h0 m0
  have g1 := fun h1 => counts_gen (l := b) h1 m1
  generalize (a.headD Rec.zero).gen = x at *
  generalize (b.headD Rec.zero).gen = y at *
  cases h0 : countsB a with
  | true =>
    have g0' := g0 h0
    cases h1 : countsB b with
    | true => simp
    | false => rw [if_pos rfl, if_neg (by simp), if_neg (by simp), if_neg (by simp; omega)]
  | false =>
    cases h1 : countsB b with
    | true => have g1' := g1 h1; rw [if_neg (by simp), if_pos rfl, if_neg (by simp), if_pos (by simp; omega)]
    | false => simp
theorem cell_other {w : World} {q o y o' : Nat} {v x : Value} (hn : y ≠ q) (h : w.cell? ⟨y, o', none⟩ = some x) : ((w.setCell ⟨q, o, none⟩ v).drew).cell? ⟨y, o', none⟩ = some x := (World.cell?_of_block (a := ⟨y, o', none⟩) (Below.heap_setCell _ _ _ _ hn)).trans h
theorem open_set {w : World} {q : Nat} {D : Dk} {kp : Int} {U M M1 : Nat} (h : RD w q D kp U M) {w' : World} (k : Nat) (f : List UInt8) (n : Nat) (hk : D.found.1 = k) (hf : f = jrnL D.found.2) (hn : n = f.length)
    (hb : w'.heap[q]? = some (.cells #[.string (B (if k = 0 then f else D.b0)), .string (B (if k = 0 then D.b1 else f)), .int .i64 (if k = 0 then n else D.l0 : Nat), .int .i64 (if k = 0 then D.l1 else n : Nat), .int .i64 D.due, .int .i64 kp, .int .i64 M1, .int .i64 M1] 222)) : RD w' q D.opened kp M1 M1 := by
  subst hf hn
  unfold Dk.opened Dk.set
  rw [hk]
  by_cases h0 : k = 0
  · simp only [if_pos h0] at hb ⊢
    exact ⟨hb, h.kq, h.kb, h.db, ⟨Nat.le_refl _, h.fit.f1⟩⟩
  · simp only [if_neg h0] at hb ⊢
    exact ⟨hb, h.kq, h.kb, h.db, ⟨h.fit.f0, Nat.le_refl _⟩⟩
theorem reads_one {W : World} {g : Nat} {r : Rec} (h : W.heap[g]? = some (.cells r.cells.toArray 25)) : W.reads 14 (.slice (some ⟨g, 0, none⟩) 1 1) ([r].map Rec.cells) := by
  refine .inr ⟨g, 0, 1, rfl, (Array.getElem?_eq_some_iff.1 h).1, fun i c hi => ?_⟩
  have hi0 : i = 0 := by have := (List.getElem?_eq_some_iff.1 hi).1; simp at this; omega
  subst hi0
  simp at hi
  subst hi
  refine ⟨rfl, fun j v hj => ?_⟩
  simp only [World.cell?, h]
  simpa using hj
set_option maxRecDepth 100000 in
set_option maxHeartbeats 16000000 in
theorem refOpen (w : World) (q : Nat) (D : Dk) (kp : Int) (U M : Nat) (h : RD w q D kp U M) (hcm : D.Calm) (m : Nat) (hle : D.Le m) (hm : m ≤ 100000000) (hM : M ≤ 100000000) :
    Calls Try.prog 83 #[.pointer (some ⟨q, 0, none⟩)] w fun e w' => ∃ b, e = .returned (.pointer (some ⟨b, 0, none⟩)) ∧ w.heap.size ≤ b ∧ RD w' q D.opened kp (M + 1) (M + 1) ∧ w'.heap[b]? = some (.cells #[.pointer (some ⟨q, 0, none⟩), .int .i64 ((M + 1 : Nat) : Int), .int .i64 D.found.1] 224) ∧ w.turned w' (fun k => k = q) := by
  have H : Hid (RD w q D kp U M) := h
  have hblk := h.blk
  have hq := h.lt
  obtain ⟨b0, hb0⟩ : ∃ b, b = D.b0 := ⟨_, rfl⟩
  obtain ⟨b1, hb1⟩ : ∃ b, b = D.b1 := ⟨_, rfl⟩
  obtain ⟨l0, hl0⟩ : ∃ b, b = D.l0 := ⟨_, rfl⟩
  obtain ⟨l1, hl1⟩ : ∃ b, b = D.l1 := ⟨_, rfl⟩
  obtain ⟨due, hdue⟩ : ∃ b, b = D.due := ⟨_, rfl⟩
  have HEQ : Hid (b0 = D.b0 ∧ b1 = D.b1 ∧ l0 = D.l0 ∧ l1 = D.l1 ∧ due = D.due) := ⟨hb0, hb1, hl0, hl1, hdue⟩
  rw [← hb0, ← hb1, ← hl0, ← hl1, ← hdue] at hblk
  have hlen0 : b0.length ≤ 100000000 := by rw [hb0]; have := hle.e0; omega
  have hlen1 : b1.length ≤ 100000000 := by rw [hb1]; have := hle.e1; omega
  obtain ⟨M1, hM1⟩ : ∃ M1, M1 = M + 1 := ⟨_, rfl⟩
  have HM1 : Hid (M1 = M + 1) := hM1
  have wm : IntKind.i64.wrap ((M : Int) + 1) = (M1 : Int) := by rw [wrap_id _ (by omega) (by omega), hM1]; rfl
  obtain ⟨ra, hra⟩ : ∃ r, r = (scanA b0).1 := ⟨_, rfl⟩
  obtain ⟨rb, hrb⟩ : ∃ r, r = (scanA b1).1 := ⟨_, rfl⟩
  obtain ⟨ga, hga⟩ : ∃ g, g = basedN ra := ⟨_, rfl⟩
  obtain ⟨gb, hgb⟩ : ∃ g, g = basedN rb := ⟨_, rfl⟩
  obtain ⟨sa, hsa⟩ : ∃ s, s = (jrnL ra).length := ⟨_, rfl⟩
  obtain ⟨sb, hsb⟩ : ∃ s, s = (jrnL rb).length := ⟨_, rfl⟩
  have HGS : Hid (sa ≤ b0.length ∧ sb ≤ b1.length ∧ b0.take sa = jrnL ra ∧ b1.take sb = jrnL rb) := by
    have e0 := scan_len b0
    have e1 := scan_len b1
    have f0 := scanA_jle b0
    have f1 := scanA_jle b1
    rw [← hra] at e0 f0
    rw [← hrb] at e1 f1
    rw [← hsa] at e0 f0
    rw [← hsb] at e1 f1
    exact ⟨f0, f1, e0.2.2, e1.2.2⟩
  have HFD : Hid (D.found = if (ga == 0) = true ∧ (gb == 0) = true then (0, [beginR]) else if ga < gb then (1, rb) else (0, ra)) := by
    show _ = _
    rw [found_eq, hga, hgb, hra, hrb, hb0, hb1]
  have HA0 : Hid (∀ W, Calls Try.prog 18 #[.string (B b0)] W fun e w' => ∃ a c, e = .returned (.tuple #[.slice a ra.length c, .int .i64 (sa : Nat)]) ∧ (ra ≠ [] → w'.reads 14 (.slice a ra.length c) (ra.map Rec.cells)) ∧ Below W.heap.size W w') := by
    intro W
    refine (refScanOf b0 W hlen0).mono ?_
    rintro e w' ⟨v, rfl, ho, hb⟩
    rw [← hra] at ho ⊢
    obtain ⟨a, c, rfl, -, -, -⟩ := ho.cap
    exact ⟨a, c, by rw [hsa], fun _ => ho.L.reads, hb⟩
  have HA1 : Hid (∀ W, Calls Try.prog 18 #[.string (B b1)] W fun e w' => ∃ a c, e = .returned (.tuple #[.slice a rb.length c, .int .i64 (sb : Nat)]) ∧ (rb ≠ [] → w'.reads 14 (.slice a rb.length c) (rb.map Rec.cells)) ∧ Below W.heap.size W w') := by
    intro W
    refine (refScanOf b1 W hlen1).mono ?_
    rintro e w' ⟨v, rfl, ho, hb⟩
    rw [← hrb] at ho ⊢
    obtain ⟨a, c, rfl, -, -, -⟩ := ho.cap
    exact ⟨a, c, by rw [hsb], fun _ => ho.L.reads, hb⟩
  have HRL : Hid (ra.length ≤ 100000000 ∧ rb.length ≤ 100000000) := by
    have e0 := jrnL_len ra
    have e1 := jrnL_len rb
    have := HGS.out
    exact ⟨by omega, by omega⟩
  have HBA : Hid (∀ (a : Option Addr) (c : Nat) (w1 W : World), (ra ≠ [] → w1.reads 14 (.slice a ra.length c) (ra.map Rec.cells)) → Below w1.heap.size w1 W → Calls Try.prog 128 #[.slice a ra.length c] W fun e w' => e = .returned (.int .i64 ga) ∧ w' = W) := by
    intro a c w1 W hr hW
    rw [hga]
    exact refBased a c ra W (by have := HRL.out.1; omega) fun hne => (hr hne).keep fun x hx => hW.block x (reads_lt (hr hne) hx)
  have HBB : Hid (∀ (a : Option Addr) (c : Nat) (w1 W : World), (rb ≠ [] → w1.reads 14 (.slice a rb.length c) (rb.map Rec.cells)) → Below w1.heap.size w1 W → Calls Try.prog 128 #[.slice a rb.length c] W fun e w' => e = .returned (.int .i64 gb) ∧ w' = W) := by
    intro a c w1 W hr hW
    rw [hgb]
    exact refBased a c rb W (by have := HRL.out.2; omega) fun hne => (hr hne).keep fun x hx => hW.block x (reads_lt (hr hne) hx)
  obtain ⟨na, hna⟩ : ∃ n, n = ra.length := ⟨_, rfl⟩
  obtain ⟨nb, hnb⟩ : ∃ n, n = rb.length := ⟨_, rfl⟩
  have HNA : Hid (na = ra.length ∧ nb = rb.length) := ⟨hna, hnb⟩
  rw [← hna] at HA0 HBA
  rw [← hnb] at HA1 HBB
  have HL5 : Hid (b0.length ≤ 100000000 ∧ b1.length ≤ 100000000 ∧ M ≤ 100000000) := ⟨hlen0, hlen1, hM⟩
  have HBK : Hid (w.heap[q]? = some (.cells #[.string (B b0), .string (B b1), .int .i64 l0, .int .i64 l1, .int .i64 due, .int .i64 kp, .int .i64 U, .int .i64 M] 222)) := hblk
  obtain ⟨q0, q1, q2, q3, q4, q5, q6, q7, qf⟩ := rd_cells hblk
  clear h hcm hle hm hM hb0 hb1 hl0 hl1 hdue hM1 hra hrb hga hgb hsa hsb hna hnb hblk hlen0 hlen1
  rw [← HM1.out]
  go_enter Try.func83, Try.ntmps83
  go_wp2_with fail
  refine (HA0.out w).mono ?_
  rintro e w1 ⟨aa, ca, rfl, hr1, hb1⟩
  have HR1 : Hid (ra ≠ [] → w1.reads 14 (.slice aa na ca) (ra.map Rec.cells)) := hr1
  have HB1 : Hid (Below w.heap.size w w1) := hb1
  have hq1 : q < w1.heap.size := by have := hb1.size; omega
  have hblk1 := (hb1.block q hq).trans HBK.out
  clear hr1 hb1 q0 q1 q2 q3 q4 q5 q6 q7 qf HA0
  obtain ⟨q0, q1, q2, q3, q4, q5, q6, q7, qf⟩ := rd_cells hblk1
  clear hblk1
  go_wp2_with fail
  refine (HA1.out w1).mono ?_
  rintro e w2 ⟨ab, cb, rfl, hr2, hb2⟩
  have HR2 : Hid (rb ≠ [] → w2.reads 14 (.slice ab nb cb) (rb.map Rec.cells)) := hr2
  have HB12 : Hid (Below w1.heap.size w1 w2) := hb2
  have HB2 : Hid (Below w.heap.size w w2) := belowVia hb2 HB1.out
  have hq2' : q < w2.heap.size := by have := hb2.size; omega
  clear hr2 hb2 q0 q1 q2 q3 q4 q5 q6 q7 qf HA1
  go_wp2_with fail
  obtain ⟨W0, hWeq⟩ : ∃ W, W = w2.alloc (.cells #[.pointer (some ⟨q, 0, none⟩), .int .i64 0, .int .i64 0] 224) := ⟨_, rfl⟩
  rw [← hWeq]
  obtain ⟨y, hy⟩ : ∃ y, y = w2.heap.size := ⟨_, rfl⟩
  rw [← hy]
  have hbW : Below w2.heap.size w2 W0 := by rw [hWeq]; exact (by repeat (first | exact Below.refl _ _ | assumption | with_reducible refine below_drewN ?_ _ | refine Gr.ext ?_ _ | refine Gr.alloc ?_ _ | refine Gr.drew ?_ | (refine Gr.set ?_ (by first | (simp; done) | (simp; omega)) _)))
  have hWy : W0.heap[y]? = some (.cells #[.pointer (some ⟨q, 0, none⟩), .int .i64 0, .int .i64 0] 224) := by rw [hWeq, hy]; exact Hp.new rfl
  have HW0y : Hid (W0.heap[y]? = some (.cells #[.pointer (some ⟨q, 0, none⟩), .int .i64 0, .int .i64 0] 224)) := hWy
  have HW0q : Hid (W0.heap[q]? = some (.cells #[.string (B b0), .string (B b1), .int .i64 l0, .int .i64 l1, .int .i64 due, .int .i64 kp, .int .i64 U, .int .i64 M] 222)) := (hbW.block q hq2').trans ((HB2.out.block q hq).trans HBK.out)
  have HW0t : Hid (w.turned W0 (fun k => k = q)) := World.turned.of_below (belowVia hbW HB2.out) _
  have HYW : Hid (w.heap.size ≤ y) := by show _ ≤ _; rw [hy]; exact HB2.out.size
  have HBA0 : Hid (Calls Try.prog 128 #[.slice aa na ca] W0 fun e w' => e = .returned (.int .i64 ga) ∧ w' = W0) := HBA.out aa ca w1 W0 HR1.out (belowVia hbW HB12.out)
  have HBB0 : Hid (Calls Try.prog 128 #[.slice ab nb cb] W0 fun e w' => e = .returned (.int .i64 gb) ∧ w' = W0) := HBB.out ab cb w2 W0 HR2.out hbW
  have hyq : y ≠ q := by rw [hy]; omega
  clear hWeq hy hbW hWy HBA HBB HR1 HR2 HB12 HB1 HB2 hq1 hq2'
  refine HBA0.out.mono ?_
  rintro e w3 ⟨rfl, hw3⟩
  rw [hw3]
  clear hw3 w3
  cases hga0 : (ga == 0) with
  | true =>
    go_wp2_with fail
    refine HBB0.out.mono ?_
    rintro e w4 ⟨rfl, hw4⟩
    rw [hw4]
    clear hw4 w4
    cases hgb0 : (gb == 0) with
    | true =>
      obtain ⟨jL, hjL⟩ : ∃ l, l = jrnL [beginR] := ⟨_, rfl⟩
      have HJL : Hid (jL = jrnL [beginR]) := hjL
      have hjl9 : jL.length ≤ 100 := by rw [hjL]; exact jrn_begin
      have HJ : Hid (∀ W g, W.heap[g]? = some (.cells #[.int .i64 1, .int .i64 1, .int .i64 0, .int .i64 0, .int .i64 0, .int .i64 0, .int .i64 0, .string ⟨#[]⟩, .string ⟨#[]⟩, .string ⟨#[]⟩, .int .i64 0, .int .i64 0, .int .i64 0, .string ⟨#[]⟩] 25) → Calls Try.prog 129 #[.slice (some ⟨g, 0, none⟩) 1 1] W fun e w' => e = .returned (.string (B jL)) ∧ Below W.heap.size W w') := by
        intro W g hg
        rw [hjL]
        exact refJournal (some ⟨g, 0, none⟩) 1 [beginR] W (fun r hr => by rw [List.mem_singleton.1 hr]; exact beginR_may) (by simp) (by have := jrn_begin; omega) (fun _ => reads_one (r := beginR) hg)
      clear hjL
      obtain ⟨q0, q1, q2, q3, q4, q5, q6, q7, qf⟩ := rd_cells HW0q.out
      obtain ⟨y0, y1, y2, yf⟩ := wal3_cells HW0y.out
      have hqw : q < W0.heap.size := (Array.getElem?_eq_some_iff.1 HW0q.out).1
      have hyw : y < W0.heap.size := (Array.getElem?_eq_some_iff.1 HW0y.out).1
      go_wp2_with fail
      go_region_held3 (fun _ => True) (trivial)
        (first | (
          go_at_call 129
          refine (HJ.out (W0.alloc _).drew W0.heap.size (heap_alloc_new W0 _)).mono ?_
          rintro e w5 ⟨rfl, hb5⟩
          have hbd : Below W0.heap.size W0 w5 := belowVia hb5 (by repeat (first | exact Below.refl _ _ | assumption | with_reducible refine below_drewN ?_ _ | refine Gr.ext ?_ _ | refine Gr.alloc ?_ _ | refine Gr.drew ?_ | (refine Gr.set ?_ (by first | (simp; done) | (simp; omega)) _)))
          have k0 := bcellAt hbd hqw q0
          have kf := fun o => (hbd.frozen (p := ⟨q, o, none⟩) hqw).trans (qf o)))
      refine world_any (F := fun W => W.heap[q]? = some (.cells #[.string (B jL), .string (B b1), .int .i64 l0, .int .i64 l1, .int .i64 due, .int .i64 kp, .int .i64 U, .int .i64 M] 222) ∧ W.heap[y]? = some (.cells #[.pointer (some ⟨q, 0, none⟩), .int .i64 0, .int .i64 0] 224) ∧ w.turned W (fun k => k = q)) ⟨((cells_set ((hbd.block q hqw).trans HW0q.out) _).trans (by simp only [List.setIfInBounds_toArray, List.set_cons_succ, List.set_cons_zero])), ((Below.heap_setCell _ _ _ _ hyq).trans ((hbd.block y hyw).trans HW0y.out)), ((turned_set (S := fun k => k = q) (HW0t.out.trans (World.turned.of_below hbd (fun _ => False)) fun _ _ h => h.elim) rfl _))⟩ ?_
      rintro V0 ⟨hV0q, hV0y, hV0t⟩
      have HV0q : Hid (V0.heap[q]? = some (.cells #[.string (B jL), .string (B b1), .int .i64 l0, .int .i64 l1, .int .i64 due, .int .i64 kp, .int .i64 U, .int .i64 M] 222)) := hV0q
      have HV0y : Hid (V0.heap[y]? = some (.cells #[.pointer (some ⟨q, 0, none⟩), .int .i64 0, .int .i64 0] 224)) := hV0y
      have HV0t : Hid (w.turned V0 (fun k => k = q)) := hV0t
      clear hV0q hV0y hV0t
      clear q0 q1 q2 q3 q4 q5 q6 q7 qf y0 y1 y2 yf hqw hyw
      obtain ⟨nL, hnL⟩ : ∃ n, n = jL.length := ⟨_, rfl⟩
      have HNL : Hid (nL = jL.length) := hnL
      have hnl1 : nL ≤ jL.length := by omega
      obtain ⟨q0, q1, q2, q3, q4, q5, q6, q7, qf⟩ := rd_cells HV0q.out
      obtain ⟨y0, y1, y2, yf⟩ := wal3_cells HV0y.out
      have hqw : q < V0.heap.size := (Array.getElem?_eq_some_iff.1 HV0q.out).1
      have hyw : y < V0.heap.size := (Array.getElem?_eq_some_iff.1 HV0y.out).1
      go_wp2_with fail
      rw [← hnL]
      clear hnL
      clear q0 q1 q2 q3 q4 q5 q6 q7 qf y0 y1 y2 yf hqw hyw
      obtain ⟨q0, q1, q2, q3, q4, q5, q6, q7, qf⟩ := rd_cells HV0q.out
      obtain ⟨y0, y1, y2, yf⟩ := wal3_cells HV0y.out
      have hqw : q < V0.heap.size := (Array.getElem?_eq_some_iff.1 HV0q.out).1
      have hyw : y < V0.heap.size := (Array.getElem?_eq_some_iff.1 HV0y.out).1
      go_wp2_with fail
      refine wp_region_until (fun w' => w'.cell? ⟨y, 2, none⟩ = some (.int .i64 0) ∧ w'.cell? ⟨q, 0, none⟩ = some (.string (B jL))) 19 (by kernel_rfl) ?_
      have HS0 : ((fun w' => w'.cell? ⟨y, 2, none⟩ = some (.int .i64 0) ∧ w'.cell? ⟨q, 0, none⟩ = some (.string (B jL))) : World → Prop) V0.drew := ⟨y2, q0⟩
      refine wpUntil.takeC (i := 0) (v := (.pointer (some ⟨q, 0, none⟩))) [16, 17, 18, 19] rfl (by kernel_rfl) (by kernel_rfl) (by kernel_rfl) (by kernel_rfl) (fun _ _ _ h => h) (Or.inl ⟨by rfl, fun w hSw => ?hy0⟩) HS0 ?_
      case hy0 => (try dsimp only at hSw); go_simp
      simp only [Act.put, List.getElem_toArray, List.getElem_cons_zero, List.getElem_cons_succ, List.setIfInBounds_toArray, List.set_cons_zero, List.set_cons_succ]
      refine wpUntil.takeC (i := 1) (v := (.pointer (some ⟨y, 0, none⟩))) [2, 3, 4, 18, 19] rfl (by kernel_rfl) (by kernel_rfl) (by kernel_rfl) (by kernel_rfl) (fun _ _ _ h => h) (Or.inl ⟨by rfl, fun w hSw => ?hy1⟩) HS0 ?_
      case hy1 => (try dsimp only at hSw); go_simp
      simp only [Act.put, List.getElem_toArray, List.getElem_cons_zero, List.getElem_cons_succ, List.setIfInBounds_toArray, List.set_cons_zero, List.set_cons_succ]
      refine wpUntil.takeC (i := 2) (v := (.pointer (some ⟨y, 0, none⟩))) [3, 4, 18, 19] rfl (by kernel_rfl) (by kernel_rfl) (by kernel_rfl) (by kernel_rfl) (fun _ _ _ h => h) (Or.inl ⟨by rfl, fun w hSw => ?hy2⟩) HS0 ?_
      case hy2 => (try dsimp only at hSw); go_simp
      simp only [Act.put, List.getElem_toArray, List.getElem_cons_zero, List.getElem_cons_succ, List.setIfInBounds_toArray, List.set_cons_zero, List.set_cons_succ]
      refine wpUntil.takeC (i := 3) (v := (.pointer (some ⟨y, 2, none⟩))) [4, 18, 19] rfl (by kernel_rfl) (by kernel_rfl) (by kernel_rfl) (by kernel_rfl) (fun _ _ _ h => h) (Or.inl ⟨by rfl, fun w hSw => ?hy3⟩) HS0 ?_
      case hy3 => (try dsimp only at hSw); go_simp
      simp only [Act.put, List.getElem_toArray, List.getElem_cons_zero, List.getElem_cons_succ, List.setIfInBounds_toArray, List.set_cons_zero, List.set_cons_succ]
      refine wpUntil.takeC (i := 4) (v := (.int .i64 0)) [18, 19] rfl (by kernel_rfl) (by kernel_rfl) (by kernel_rfl) (by kernel_rfl) (fun _ _ _ h => h) (Or.inl ⟨by rfl, fun w hSw => ?hy4⟩) HS0 ?_
      case hy4 => (try dsimp only at hSw); go_simp
      simp only [Act.put, List.getElem_toArray, List.getElem_cons_zero, List.getElem_cons_succ, List.setIfInBounds_toArray, List.set_cons_zero, List.set_cons_succ]
      refine wpUntil.takeC (i := 5) (v := (.pointer (some ⟨q, 0, none⟩))) [10, 11, 12, 13, 15, 19] rfl (by kernel_rfl) (by kernel_rfl) (by kernel_rfl) (by kernel_rfl) (fun _ _ _ h => h) (Or.inl ⟨by rfl, fun w hSw => ?hy5⟩) HS0 ?_
      case hy5 => (try dsimp only at hSw); go_simp
      simp only [Act.put, List.getElem_toArray, List.getElem_cons_zero, List.getElem_cons_succ, List.setIfInBounds_toArray, List.set_cons_zero, List.set_cons_succ]
      refine wpUntil.takeC (i := 6) (v := (.pointer (some ⟨y, 0, none⟩))) [7, 8, 9, 12, 13, 15, 19] rfl (by kernel_rfl) (by kernel_rfl) (by kernel_rfl) (by kernel_rfl) (fun _ _ _ h => h) (Or.inl ⟨by rfl, fun w hSw => ?hy6⟩) HS0 ?_
      case hy6 => (try dsimp only at hSw); go_simp
      simp only [Act.put, List.getElem_toArray, List.getElem_cons_zero, List.getElem_cons_succ, List.setIfInBounds_toArray, List.set_cons_zero, List.set_cons_succ]
      refine wpUntil.takeC (i := 7) (v := (.pointer (some ⟨y, 0, none⟩))) [8, 9, 12, 13, 15, 19] rfl (by kernel_rfl) (by kernel_rfl) (by kernel_rfl) (by kernel_rfl) (fun _ _ _ h => h) (Or.inl ⟨by rfl, fun w hSw => ?hy7⟩) HS0 ?_
      case hy7 => (try dsimp only at hSw); go_simp
      simp only [Act.put, List.getElem_toArray, List.getElem_cons_zero, List.getElem_cons_succ, List.setIfInBounds_toArray, List.set_cons_zero, List.set_cons_succ]
      refine wpUntil.takeC (i := 8) (v := (.pointer (some ⟨y, 2, none⟩))) [9, 12, 13, 15, 19] rfl (by kernel_rfl) (by kernel_rfl) (by kernel_rfl) (by kernel_rfl) (fun _ _ _ h => h) (Or.inl ⟨by rfl, fun w hSw => ?hy8⟩) HS0 ?_
      case hy8 => (try dsimp only at hSw); go_simp
      simp only [Act.put, List.getElem_toArray, List.getElem_cons_zero, List.getElem_cons_succ, List.setIfInBounds_toArray, List.set_cons_zero, List.set_cons_succ]
      refine wpUntil.takeC (i := 9) (v := (.int .i64 0)) [12, 13, 15, 19] rfl (by kernel_rfl) (by kernel_rfl) (by kernel_rfl) (by kernel_rfl) (fun _ _ _ h => h) (Or.inl ⟨by rfl, fun w hSw => ?hy9⟩) HS0 ?_
      case hy9 => (try dsimp only at hSw); go_simp
      simp only [Act.put, List.getElem_toArray, List.getElem_cons_zero, List.getElem_cons_succ, List.setIfInBounds_toArray, List.set_cons_zero, List.set_cons_succ]
      refine wpUntil.takeC (i := 10) (v := (.pointer (some ⟨q, 0, none⟩))) [11, 12, 13, 15, 19] rfl (by kernel_rfl) (by kernel_rfl) (by kernel_rfl) (by kernel_rfl) (fun _ _ _ h => h) (Or.inl ⟨by rfl, fun w hSw => ?hy10⟩) HS0 ?_
      case hy10 => (try dsimp only at hSw); go_simp
      simp only [Act.put, List.getElem_toArray, List.getElem_cons_zero, List.getElem_cons_succ, List.setIfInBounds_toArray, List.set_cons_zero, List.set_cons_succ]
      refine wpUntil.takeC (i := 11) (v := (.pointer (some ⟨q, 0, none⟩))) [12, 13, 15, 19] rfl (by kernel_rfl) (by kernel_rfl) (by kernel_rfl) (by kernel_rfl) (fun _ _ _ h => h) (Or.inl ⟨by rfl, fun w hSw => ?hy11⟩) HS0 ?_
      case hy11 => (try dsimp only at hSw); go_simp
      simp only [Act.put, List.getElem_toArray, List.getElem_cons_zero, List.getElem_cons_succ, List.setIfInBounds_toArray, List.set_cons_zero, List.set_cons_succ]
      refine wpUntil.takeC (i := 12) (v := (.pointer (some ⟨q, 0, none⟩))) [13, 15, 19] rfl (by kernel_rfl) (by kernel_rfl) (by kernel_rfl) (by kernel_rfl) (fun _ _ _ h => h) (Or.inl ⟨by rfl, fun w hSw => ?hy12⟩) HS0 ?_
      case hy12 => (try dsimp only at hSw); go_simp
      simp only [Act.put, List.getElem_toArray, List.getElem_cons_zero, List.getElem_cons_succ, List.setIfInBounds_toArray, List.set_cons_zero, List.set_cons_succ]
      refine wpUntil.takeC (i := 13) (v := (.string (B jL))) [15, 19] rfl (by kernel_rfl) (by kernel_rfl) (by kernel_rfl) (by kernel_rfl) (fun _ _ _ h => h) (Or.inl ⟨by rfl, fun w hSw => ?hy13⟩) HS0 ?_
      case hy13 => (try dsimp only at hSw); go_simp
      simp only [Act.put, List.getElem_toArray, List.getElem_cons_zero, List.getElem_cons_succ, List.setIfInBounds_toArray, List.set_cons_zero, List.set_cons_succ]
      refine wpUntil.takeC (i := 14) (v := (.int .i64 (nL : Nat))) [15, 19] rfl (by kernel_rfl) (by kernel_rfl) (by kernel_rfl) (by kernel_rfl) (fun _ _ _ h => h) (Or.inl ⟨by rfl, fun w hSw => ?hy14⟩) HS0 ?_
      case hy14 => (try dsimp only at hSw); go_simp
      simp only [Act.put, List.getElem_toArray, List.getElem_cons_zero, List.getElem_cons_succ, List.setIfInBounds_toArray, List.set_cons_zero, List.set_cons_succ]
      refine wpUntil.takeC (i := 15) (v := (.string (B (jL.take nL)))) [19] rfl (by kernel_rfl) (by kernel_rfl) (by kernel_rfl) (by kernel_rfl) (fun _ _ _ h => h) (Or.inl ⟨by rfl, fun w hSw => ?hy15⟩) HS0 ?_
      case hy15 => (try dsimp only at hSw); go_simp
      simp only [Act.put, List.getElem_toArray, List.getElem_cons_zero, List.getElem_cons_succ, List.setIfInBounds_toArray, List.set_cons_zero, List.set_cons_succ]
      refine wpUntil.takeC (i := 16) (v := (.pointer (some ⟨q, 0, none⟩))) [17, 18, 19] rfl (by kernel_rfl) (by kernel_rfl) (by kernel_rfl) (by kernel_rfl) (fun _ _ _ h => h) (Or.inl ⟨by rfl, fun w hSw => ?hy16⟩) HS0 ?_
      case hy16 => (try dsimp only at hSw); go_simp
      simp only [Act.put, List.getElem_toArray, List.getElem_cons_zero, List.getElem_cons_succ, List.setIfInBounds_toArray, List.set_cons_zero, List.set_cons_succ]
      refine wpUntil.takeC (i := 17) (v := (.pointer (some ⟨q, 0, none⟩))) [18, 19] rfl (by kernel_rfl) (by kernel_rfl) (by kernel_rfl) (by kernel_rfl) (fun _ _ _ h => h) (Or.inl ⟨by rfl, fun w hSw => ?hy17⟩) HS0 ?_
      case hy17 => (try dsimp only at hSw); go_simp
      simp only [Act.put, List.getElem_toArray, List.getElem_cons_zero, List.getElem_cons_succ, List.setIfInBounds_toArray, List.set_cons_zero, List.set_cons_succ]
      refine wpUntil.takeC (i := 18) (v := (.pointer (some ⟨q, 0, none⟩))) [19] rfl (by kernel_rfl) (by kernel_rfl) (by kernel_rfl) (by kernel_rfl) (fun _ _ _ h => h) (Or.inl ⟨by rfl, fun w hSw => ?hy18⟩) HS0 ?_
      case hy18 => (try dsimp only at hSw); go_simp
      simp only [Act.put, List.getElem_toArray, List.getElem_cons_zero, List.getElem_cons_succ, List.setIfInBounds_toArray, List.set_cons_zero, List.set_cons_succ]
      refine wpUntil.only (i := 19) rfl (by kernel_rfl) (by rfl) ?_
      simp only [Act.put, List.getElem_toArray, List.getElem_cons_zero, List.getElem_cons_succ, List.setIfInBounds_toArray, List.set_cons_zero, List.set_cons_succ]
      go_simp
      refine ⟨by kernel_rfl, ?_⟩
      refine world_any (F := fun W => W.heap[q]? = some (.cells #[.string (B (jL.take nL)), .string (B b1), .int .i64 l0, .int .i64 l1, .int .i64 due, .int .i64 kp, .int .i64 U, .int .i64 M] 222) ∧ W.heap[y]? = some (.cells #[.pointer (some ⟨q, 0, none⟩), .int .i64 0, .int .i64 0] 224) ∧ w.turned W (fun k => k = q)) ⟨((cells_set HV0q.out _).trans (by simp only [List.setIfInBounds_toArray, List.set_cons_succ, List.set_cons_zero])), ((Below.heap_setCell _ _ _ _ hyq).trans HV0y.out), (turned_set (S := fun k => k = q) HV0t.out rfl _).drew⟩ ?_
      rintro V1 ⟨hV1q, hV1y, hV1t⟩
      have HV1q : Hid (V1.heap[q]? = some (.cells #[.string (B (jL.take nL)), .string (B b1), .int .i64 l0, .int .i64 l1, .int .i64 due, .int .i64 kp, .int .i64 U, .int .i64 M] 222)) := hV1q
      have HV1y : Hid (V1.heap[y]? = some (.cells #[.pointer (some ⟨q, 0, none⟩), .int .i64 0, .int .i64 0] 224)) := hV1y
      have HV1t : Hid (w.turned V1 (fun k => k = q)) := hV1t
      clear hV1q hV1y hV1t
      clear q0 q1 q2 q3 q4 q5 q6 q7 qf y0 y1 y2 yf hqw hyw
      obtain ⟨q0, q1, q2, q3, q4, q5, q6, q7, qf⟩ := rd_cells HV1q.out
      obtain ⟨y0, y1, y2, yf⟩ := wal3_cells HV1y.out
      have hqw : q < V1.heap.size := (Array.getElem?_eq_some_iff.1 HV1q.out).1
      have hyw : y < V1.heap.size := (Array.getElem?_eq_some_iff.1 HV1y.out).1
      go_wp2_with fail
      go_region_held3 (fun w' => w'.cell? ⟨y, 2, none⟩ = some (.int .i64 0)) (first | exact y2 | exact cell_other hyq y2) (fail)
      refine world_any (F := fun W => W.heap[q]? = some (.cells #[.string (B (jL.take nL)), .string (B b1), .int .i64 nL, .int .i64 l1, .int .i64 due, .int .i64 kp, .int .i64 U, .int .i64 M] 222) ∧ W.heap[y]? = some (.cells #[.pointer (some ⟨q, 0, none⟩), .int .i64 0, .int .i64 0] 224) ∧ w.turned W (fun k => k = q)) ⟨((cells_set HV1q.out _).trans (by simp only [List.setIfInBounds_toArray, List.set_cons_succ, List.set_cons_zero])), ((Below.heap_setCell _ _ _ _ hyq).trans HV1y.out), (turned_set (S := fun k => k = q) HV1t.out rfl _).drew⟩ ?_
      rintro V2 ⟨hV2q, hV2y, hV2t⟩
      have HV2q : Hid (V2.heap[q]? = some (.cells #[.string (B (jL.take nL)), .string (B b1), .int .i64 nL, .int .i64 l1, .int .i64 due, .int .i64 kp, .int .i64 U, .int .i64 M] 222)) := hV2q
      have HV2y : Hid (V2.heap[y]? = some (.cells #[.pointer (some ⟨q, 0, none⟩), .int .i64 0, .int .i64 0] 224)) := hV2y
      have HV2t : Hid (w.turned V2 (fun k => k = q)) := hV2t
      clear hV2q hV2y hV2t
      clear q0 q1 q2 q3 q4 q5 q6 q7 qf y0 y1 y2 yf hqw hyw
      obtain ⟨q0, q1, q2, q3, q4, q5, q6, q7, qf⟩ := rd_cells HV2q.out
      obtain ⟨y0, y1, y2, yf⟩ := wal3_cells HV2y.out
      have hqw : q < V2.heap.size := (Array.getElem?_eq_some_iff.1 HV2q.out).1
      have hyw : y < V2.heap.size := (Array.getElem?_eq_some_iff.1 HV2y.out).1
      go_wp2_with fail
      refine world_any (F := fun W => W.heap[q]? = some (.cells #[.string (B (jL.take nL)), .string (B b1), .int .i64 nL, .int .i64 l1, .int .i64 due, .int .i64 kp, .int .i64 M1, .int .i64 M1] 222) ∧ W.heap[y]? = some (.cells #[.pointer (some ⟨q, 0, none⟩), .int .i64 M1, .int .i64 0] 224) ∧ w.turned W (fun k => k = q)) ⟨?_, ?_, ?_⟩ ?_
      · refine (Below.heap_setCell _ _ _ _ (fun e => hyq e.symm)).trans ((cells_set (cells_set HV2q.out _) _).trans ?_)
        simp only [List.setIfInBounds_toArray, List.set_cons_succ, List.set_cons_zero]
      · refine (cells_set ((Below.heap_setCell _ _ _ _ hyq).trans ((Below.heap_setCell _ _ _ _ hyq).trans HV2y.out)) _).trans ?_
        simp only [List.setIfInBounds_toArray, List.set_cons_succ, List.set_cons_zero]
      · refine ⟨HV2t.out.os, HV2t.out.tape, HV2t.out.output, by simp only [World.size_setCell]; exact HV2t.out.size, fun k hk hn => ?_⟩
        have hky : k ≠ y := fun e => by have := HYW.out; omega
        exact (Below.heap_setCell _ _ _ _ hky).trans ((Below.heap_setCell _ _ _ _ hn).trans ((Below.heap_setCell _ _ _ _ hn).trans (HV2t.out.block k hk hn)))
      rintro W9 ⟨h9q, h9y, h9t⟩
      go_ret
      refine ⟨y, rfl, HYW.out, ?_, ?_, h9t⟩
      · have hfd : D.found = (0, [beginR]) := by rw [HFD.out, if_pos ⟨hga0, hgb0⟩]
        refine open_set H.out 0 (jL.take nL) nL (by rw [hfd]) (by rw [hfd, HNL.out, List.take_length]; exact HJL.out) (by rw [HNL.out, List.take_length]) ?_
        obtain ⟨e0, e1, e2, e3, e4⟩ := HEQ.out
        rw [h9q]
        simp only [e0, e1, e2, e3, e4]
        rfl
      · have hfd : D.found = (0, [beginR]) := by rw [HFD.out, if_pos ⟨hga0, hgb0⟩]
        rw [h9y, hfd]
        rfl
    | false =>
      go_wp2_with fail
      refine HBB0.out.mono ?_
      rintro e w5 ⟨rfl, hw5⟩
      rw [hw5]
      clear hw5 w5
      go_wp2_with fail
      refine HBA0.out.mono ?_
      rintro e w6 ⟨rfl, hw6⟩
      rw [hw6]
      clear hw6 w6
      cases hgt : decide (ga < gb) with
      | true =>
        have HGT : Hid (ga < gb) := by show ga < gb; exact of_decide_eq_true hgt
        obtain ⟨y0, y1, y2, yf⟩ := wal3_cells HW0y.out
        have hyw : y < W0.heap.size := (Array.getElem?_eq_some_iff.1 HW0y.out).1
        have hsb1 : sb ≤ b1.length := HGS.out.2.1
        go_wp2_with fail
        refine world_any (F := fun W => W.heap[q]? = some (.cells #[.string (B b0), .string (B b1), .int .i64 l0, .int .i64 l1, .int .i64 due, .int .i64 kp, .int .i64 U, .int .i64 M] 222) ∧ W.heap[y]? = some (.cells #[.pointer (some ⟨q, 0, none⟩), .int .i64 0, .int .i64 1] 224) ∧ w.turned W (fun k => k = q)) ⟨((Below.heap_setCell _ _ _ _ (fun e => hyq e.symm)).trans HW0q.out), ((cells_set HW0y.out _).trans (by simp only [List.setIfInBounds_toArray, List.set_cons_succ, List.set_cons_zero])), ⟨HW0t.out.os, HW0t.out.tape, HW0t.out.output, (by simp only [World.size_setCell]; exact HW0t.out.size), fun k hk hn => (Below.heap_setCell _ _ _ _ (fun e => by have e' : k = y := e; have := HYW.out; omega)).trans (HW0t.out.block k hk hn)⟩⟩ ?_
        rintro V0 ⟨hV0q, hV0y, hV0t⟩
        have HV0q : Hid (V0.heap[q]? = some (.cells #[.string (B b0), .string (B b1), .int .i64 l0, .int .i64 l1, .int .i64 due, .int .i64 kp, .int .i64 U, .int .i64 M] 222)) := hV0q
        have HV0y : Hid (V0.heap[y]? = some (.cells #[.pointer (some ⟨q, 0, none⟩), .int .i64 0, .int .i64 1] 224)) := hV0y
        have HV0t : Hid (w.turned V0 (fun k => k = q)) := hV0t
        clear hV0q hV0y hV0t
        clear y0 y1 y2 yf hyw
        obtain ⟨q0, q1, q2, q3, q4, q5, q6, q7, qf⟩ := rd_cells HV0q.out
        obtain ⟨y0, y1, y2, yf⟩ := wal3_cells HV0y.out
        have hqw : q < V0.heap.size := (Array.getElem?_eq_some_iff.1 HV0q.out).1
        have hyw : y < V0.heap.size := (Array.getElem?_eq_some_iff.1 HV0y.out).1
        go_wp2_with fail
        refine wp_region_until (fun w' => w'.cell? ⟨y, 2, none⟩ = some (.int .i64 1) ∧ w'.cell? ⟨q, 1, none⟩ = some (.string (B b1))) 19 (by kernel_rfl) ?_
        have HS0 : ((fun w' => w'.cell? ⟨y, 2, none⟩ = some (.int .i64 1) ∧ w'.cell? ⟨q, 1, none⟩ = some (.string (B b1))) : World → Prop) V0.drew := ⟨y2, q1⟩
        refine wpUntil.takeC (i := 0) (v := (.pointer (some ⟨q, 0, none⟩))) [16, 17, 18, 19] rfl (by kernel_rfl) (by kernel_rfl) (by kernel_rfl) (by kernel_rfl) (fun _ _ _ h => h) (Or.inl ⟨by rfl, fun w hSw => ?hy0⟩) HS0 ?_
        case hy0 => (try dsimp only at hSw); go_simp
        simp only [Act.put, List.getElem_toArray, List.getElem_cons_zero, List.getElem_cons_succ, List.setIfInBounds_toArray, List.set_cons_zero, List.set_cons_succ]
        refine wpUntil.takeC (i := 1) (v := (.pointer (some ⟨y, 0, none⟩))) [2, 3, 4, 18, 19] rfl (by kernel_rfl) (by kernel_rfl) (by kernel_rfl) (by kernel_rfl) (fun _ _ _ h => h) (Or.inl ⟨by rfl, fun w hSw => ?hy1⟩) HS0 ?_
        case hy1 => (try dsimp only at hSw); go_simp
        simp only [Act.put, List.getElem_toArray, List.getElem_cons_zero, List.getElem_cons_succ, List.setIfInBounds_toArray, List.set_cons_zero, List.set_cons_succ]
        refine wpUntil.takeC (i := 2) (v := (.pointer (some ⟨y, 0, none⟩))) [3, 4, 18, 19] rfl (by kernel_rfl) (by kernel_rfl) (by kernel_rfl) (by kernel_rfl) (fun _ _ _ h => h) (Or.inl ⟨by rfl, fun w hSw => ?hy2⟩) HS0 ?_
        case hy2 => (try dsimp only at hSw); go_simp
        simp only [Act.put, List.getElem_toArray, List.getElem_cons_zero, List.getElem_cons_succ, List.setIfInBounds_toArray, List.set_cons_zero, List.set_cons_succ]
        refine wpUntil.takeC (i := 3) (v := (.pointer (some ⟨y, 2, none⟩))) [4, 18, 19] rfl (by kernel_rfl) (by kernel_rfl) (by kernel_rfl) (by kernel_rfl) (fun _ _ _ h => h) (Or.inl ⟨by rfl, fun w hSw => ?hy3⟩) HS0 ?_
        case hy3 => (try dsimp only at hSw); go_simp
        simp only [Act.put, List.getElem_toArray, List.getElem_cons_zero, List.getElem_cons_succ, List.setIfInBounds_toArray, List.set_cons_zero, List.set_cons_succ]
        refine wpUntil.takeC (i := 4) (v := (.int .i64 1)) [18, 19] rfl (by kernel_rfl) (by kernel_rfl) (by kernel_rfl) (by kernel_rfl) (fun _ _ _ h => h) (Or.inl ⟨by rfl, fun w hSw => ?hy4⟩) HS0 ?_
        case hy4 => (try dsimp only at hSw); go_simp
        simp only [Act.put, List.getElem_toArray, List.getElem_cons_zero, List.getElem_cons_succ, List.setIfInBounds_toArray, List.set_cons_zero, List.set_cons_succ]
        refine wpUntil.takeC (i := 5) (v := (.pointer (some ⟨q, 0, none⟩))) [10, 11, 12, 13, 15, 19] rfl (by kernel_rfl) (by kernel_rfl) (by kernel_rfl) (by kernel_rfl) (fun _ _ _ h => h) (Or.inl ⟨by rfl, fun w hSw => ?hy5⟩) HS0 ?_
        case hy5 => (try dsimp only at hSw); go_simp
        simp only [Act.put, List.getElem_toArray, List.getElem_cons_zero, List.getElem_cons_succ, List.setIfInBounds_toArray, List.set_cons_zero, List.set_cons_succ]
        refine wpUntil.takeC (i := 6) (v := (.pointer (some ⟨y, 0, none⟩))) [7, 8, 9, 12, 13, 15, 19] rfl (by kernel_rfl) (by kernel_rfl) (by kernel_rfl) (by kernel_rfl) (fun _ _ _ h => h) (Or.inl ⟨by rfl, fun w hSw => ?hy6⟩) HS0 ?_
        case hy6 => (try dsimp only at hSw); go_simp
        simp only [Act.put, List.getElem_toArray, List.getElem_cons_zero, List.getElem_cons_succ, List.setIfInBounds_toArray, List.set_cons_zero, List.set_cons_succ]
        refine wpUntil.takeC (i := 7) (v := (.pointer (some ⟨y, 0, none⟩))) [8, 9, 12, 13, 15, 19] rfl (by kernel_rfl) (by kernel_rfl) (by kernel_rfl) (by kernel_rfl) (fun _ _ _ h => h) (Or.inl ⟨by rfl, fun w hSw => ?hy7⟩) HS0 ?_
        case hy7 => (try dsimp only at hSw); go_simp
        simp only [Act.put, List.getElem_toArray, List.getElem_cons_zero, List.getElem_cons_succ, List.setIfInBounds_toArray, List.set_cons_zero, List.set_cons_succ]
        refine wpUntil.takeC (i := 8) (v := (.pointer (some ⟨y, 2, none⟩))) [9, 12, 13, 15, 19] rfl (by kernel_rfl) (by kernel_rfl) (by kernel_rfl) (by kernel_rfl) (fun _ _ _ h => h) (Or.inl ⟨by rfl, fun w hSw => ?hy8⟩) HS0 ?_
        case hy8 => (try dsimp only at hSw); go_simp
        simp only [Act.put, List.getElem_toArray, List.getElem_cons_zero, List.getElem_cons_succ, List.setIfInBounds_toArray, List.set_cons_zero, List.set_cons_succ]
        refine wpUntil.takeC (i := 9) (v := (.int .i64 1)) [12, 13, 15, 19] rfl (by kernel_rfl) (by kernel_rfl) (by kernel_rfl) (by kernel_rfl) (fun _ _ _ h => h) (Or.inl ⟨by rfl, fun w hSw => ?hy9⟩) HS0 ?_
        case hy9 => (try dsimp only at hSw); go_simp
        simp only [Act.put, List.getElem_toArray, List.getElem_cons_zero, List.getElem_cons_succ, List.setIfInBounds_toArray, List.set_cons_zero, List.set_cons_succ]
        refine wpUntil.takeC (i := 10) (v := (.pointer (some ⟨q, 0, none⟩))) [11, 12, 13, 15, 19] rfl (by kernel_rfl) (by kernel_rfl) (by kernel_rfl) (by kernel_rfl) (fun _ _ _ h => h) (Or.inl ⟨by rfl, fun w hSw => ?hy10⟩) HS0 ?_
        case hy10 => (try dsimp only at hSw); go_simp
        simp only [Act.put, List.getElem_toArray, List.getElem_cons_zero, List.getElem_cons_succ, List.setIfInBounds_toArray, List.set_cons_zero, List.set_cons_succ]
        refine wpUntil.takeC (i := 11) (v := (.pointer (some ⟨q, 0, none⟩))) [12, 13, 15, 19] rfl (by kernel_rfl) (by kernel_rfl) (by kernel_rfl) (by kernel_rfl) (fun _ _ _ h => h) (Or.inl ⟨by rfl, fun w hSw => ?hy11⟩) HS0 ?_
        case hy11 => (try dsimp only at hSw); go_simp
        simp only [Act.put, List.getElem_toArray, List.getElem_cons_zero, List.getElem_cons_succ, List.setIfInBounds_toArray, List.set_cons_zero, List.set_cons_succ]
        refine wpUntil.takeC (i := 12) (v := (.pointer (some ⟨q, 1, none⟩))) [13, 15, 19] rfl (by kernel_rfl) (by kernel_rfl) (by kernel_rfl) (by kernel_rfl) (fun _ _ _ h => h) (Or.inl ⟨by rfl, fun w hSw => ?hy12⟩) HS0 ?_
        case hy12 => (try dsimp only at hSw); go_simp
        simp only [Act.put, List.getElem_toArray, List.getElem_cons_zero, List.getElem_cons_succ, List.setIfInBounds_toArray, List.set_cons_zero, List.set_cons_succ]
        refine wpUntil.takeC (i := 13) (v := (.string (B b1))) [15, 19] rfl (by kernel_rfl) (by kernel_rfl) (by kernel_rfl) (by kernel_rfl) (fun _ _ _ h => h) (Or.inl ⟨by rfl, fun w hSw => ?hy13⟩) HS0 ?_
        case hy13 => (try dsimp only at hSw); go_simp
        simp only [Act.put, List.getElem_toArray, List.getElem_cons_zero, List.getElem_cons_succ, List.setIfInBounds_toArray, List.set_cons_zero, List.set_cons_succ]
        refine wpUntil.takeC (i := 14) (v := (.int .i64 (sb : Nat))) [15, 19] rfl (by kernel_rfl) (by kernel_rfl) (by kernel_rfl) (by kernel_rfl) (fun _ _ _ h => h) (Or.inl ⟨by rfl, fun w hSw => ?hy14⟩) HS0 ?_
        case hy14 => (try dsimp only at hSw); go_simp
        simp only [Act.put, List.getElem_toArray, List.getElem_cons_zero, List.getElem_cons_succ, List.setIfInBounds_toArray, List.set_cons_zero, List.set_cons_succ]
        refine wpUntil.takeC (i := 15) (v := (.string (B (b1.take sb)))) [19] rfl (by kernel_rfl) (by kernel_rfl) (by kernel_rfl) (by kernel_rfl) (fun _ _ _ h => h) (Or.inl ⟨by rfl, fun w hSw => ?hy15⟩) HS0 ?_
        case hy15 => (try dsimp only at hSw); go_simp
        simp only [Act.put, List.getElem_toArray, List.getElem_cons_zero, List.getElem_cons_succ, List.setIfInBounds_toArray, List.set_cons_zero, List.set_cons_succ]
        refine wpUntil.takeC (i := 16) (v := (.pointer (some ⟨q, 0, none⟩))) [17, 18, 19] rfl (by kernel_rfl) (by kernel_rfl) (by kernel_rfl) (by kernel_rfl) (fun _ _ _ h => h) (Or.inl ⟨by rfl, fun w hSw => ?hy16⟩) HS0 ?_
        case hy16 => (try dsimp only at hSw); go_simp
        simp only [Act.put, List.getElem_toArray, List.getElem_cons_zero, List.getElem_cons_succ, List.setIfInBounds_toArray, List.set_cons_zero, List.set_cons_succ]
        refine wpUntil.takeC (i := 17) (v := (.pointer (some ⟨q, 0, none⟩))) [18, 19] rfl (by kernel_rfl) (by kernel_rfl) (by kernel_rfl) (by kernel_rfl) (fun _ _ _ h => h) (Or.inl ⟨by rfl, fun w hSw => ?hy17⟩) HS0 ?_
        case hy17 => (try dsimp only at hSw); go_simp
        simp only [Act.put, List.getElem_toArray, List.getElem_cons_zero, List.getElem_cons_succ, List.setIfInBounds_toArray, List.set_cons_zero, List.set_cons_succ]
        refine wpUntil.takeC (i := 18) (v := (.pointer (some ⟨q, 1, none⟩))) [19] rfl (by kernel_rfl) (by kernel_rfl) (by kernel_rfl) (by kernel_rfl) (fun _ _ _ h => h) (Or.inl ⟨by rfl, fun w hSw => ?hy18⟩) HS0 ?_
        case hy18 => (try dsimp only at hSw); go_simp
        simp only [Act.put, List.getElem_toArray, List.getElem_cons_zero, List.getElem_cons_succ, List.setIfInBounds_toArray, List.set_cons_zero, List.set_cons_succ]
        refine wpUntil.only (i := 19) rfl (by kernel_rfl) (by rfl) ?_
        simp only [Act.put, List.getElem_toArray, List.getElem_cons_zero, List.getElem_cons_succ, List.setIfInBounds_toArray, List.set_cons_zero, List.set_cons_succ]
        go_simp
        refine ⟨by kernel_rfl, ?_⟩
        refine world_any (F := fun W => W.heap[q]? = some (.cells #[.string (B b0), .string (B (b1.take sb)), .int .i64 l0, .int .i64 l1, .int .i64 due, .int .i64 kp, .int .i64 U, .int .i64 M] 222) ∧ W.heap[y]? = some (.cells #[.pointer (some ⟨q, 0, none⟩), .int .i64 0, .int .i64 1] 224) ∧ w.turned W (fun k => k = q)) ⟨((cells_set HV0q.out _).trans (by simp only [List.setIfInBounds_toArray, List.set_cons_succ, List.set_cons_zero])), ((Below.heap_setCell _ _ _ _ hyq).trans HV0y.out), (turned_set (S := fun k => k = q) HV0t.out rfl _).drew⟩ ?_
        rintro V1 ⟨hV1q, hV1y, hV1t⟩
        have HV1q : Hid (V1.heap[q]? = some (.cells #[.string (B b0), .string (B (b1.take sb)), .int .i64 l0, .int .i64 l1, .int .i64 due, .int .i64 kp, .int .i64 U, .int .i64 M] 222)) := hV1q
        have HV1y : Hid (V1.heap[y]? = some (.cells #[.pointer (some ⟨q, 0, none⟩), .int .i64 0, .int .i64 1] 224)) := hV1y
        have HV1t : Hid (w.turned V1 (fun k => k = q)) := hV1t
        clear hV1q hV1y hV1t
        clear q0 q1 q2 q3 q4 q5 q6 q7 qf y0 y1 y2 yf hqw hyw
        obtain ⟨q0, q1, q2, q3, q4, q5, q6, q7, qf⟩ := rd_cells HV1q.out
        obtain ⟨y0, y1, y2, yf⟩ := wal3_cells HV1y.out
        have hqw : q < V1.heap.size := (Array.getElem?_eq_some_iff.1 HV1q.out).1
        have hyw : y < V1.heap.size := (Array.getElem?_eq_some_iff.1 HV1y.out).1
        go_wp2_with fail
        go_region_held3 (fun w' => w'.cell? ⟨y, 2, none⟩ = some (.int .i64 1)) (first | exact y2 | exact cell_other hyq y2) (fail)
        refine world_any (F := fun W => W.heap[q]? = some (.cells #[.string (B b0), .string (B (b1.take sb)), .int .i64 l0, .int .i64 sb, .int .i64 due, .int .i64 kp, .int .i64 U, .int .i64 M] 222) ∧ W.heap[y]? = some (.cells #[.pointer (some ⟨q, 0, none⟩), .int .i64 0, .int .i64 1] 224) ∧ w.turned W (fun k => k = q)) ⟨((cells_set HV1q.out _).trans (by simp only [List.setIfInBounds_toArray, List.set_cons_succ, List.set_cons_zero])), ((Below.heap_setCell _ _ _ _ hyq).trans HV1y.out), (turned_set (S := fun k => k = q) HV1t.out rfl _).drew⟩ ?_
        rintro V2 ⟨hV2q, hV2y, hV2t⟩
        have HV2q : Hid (V2.heap[q]? = some (.cells #[.string (B b0), .string (B (b1.take sb)), .int .i64 l0, .int .i64 sb, .int .i64 due, .int .i64 kp, .int .i64 U, .int .i64 M] 222)) := hV2q
        have HV2y : Hid (V2.heap[y]? = some (.cells #[.pointer (some ⟨q, 0, none⟩), .int .i64 0, .int .i64 1] 224)) := hV2y
        have HV2t : Hid (w.turned V2 (fun k => k = q)) := hV2t
        clear hV2q hV2y hV2t
        clear q0 q1 q2 q3 q4 q5 q6 q7 qf y0 y1 y2 yf hqw hyw
        obtain ⟨q0, q1, q2, q3, q4, q5, q6, q7, qf⟩ := rd_cells HV2q.out
        obtain ⟨y0, y1, y2, yf⟩ := wal3_cells HV2y.out
        have hqw : q < V2.heap.size := (Array.getElem?_eq_some_iff.1 HV2q.out).1
        have hyw : y < V2.heap.size := (Array.getElem?_eq_some_iff.1 HV2y.out).1
        go_wp2_with fail
        refine world_any (F := fun W => W.heap[q]? = some (.cells #[.string (B b0), .string (B (b1.take sb)), .int .i64 l0, .int .i64 sb, .int .i64 due, .int .i64 kp, .int .i64 M1, .int .i64 M1] 222) ∧ W.heap[y]? = some (.cells #[.pointer (some ⟨q, 0, none⟩), .int .i64 M1, .int .i64 1] 224) ∧ w.turned W (fun k => k = q)) ⟨?_, ?_, ?_⟩ ?_
        · refine (Below.heap_setCell _ _ _ _ (fun e => hyq e.symm)).trans ((cells_set (cells_set HV2q.out _) _).trans ?_)
          simp only [List.setIfInBounds_toArray, List.set_cons_succ, List.set_cons_zero]
        · refine (cells_set ((Below.heap_setCell _ _ _ _ hyq).trans ((Below.heap_setCell _ _ _ _ hyq).trans HV2y.out)) _).trans ?_
          simp only [List.setIfInBounds_toArray, List.set_cons_succ, List.set_cons_zero]
        · refine ⟨HV2t.out.os, HV2t.out.tape, HV2t.out.output, by simp only [World.size_setCell]; exact HV2t.out.size, fun k hk hn => ?_⟩
          have hky : k ≠ y := fun e => by have := HYW.out; omega
          exact (Below.heap_setCell _ _ _ _ hky).trans ((Below.heap_setCell _ _ _ _ hn).trans ((Below.heap_setCell _ _ _ _ hn).trans (HV2t.out.block k hk hn)))
        rintro W9 ⟨h9q, h9y, h9t⟩
        go_ret
        refine ⟨y, rfl, HYW.out, ?_, ?_, h9t⟩
        · have hfd : D.found = (1, rb) := by rw [HFD.out]; rw [if_neg (by rintro ⟨e1, e2⟩; rw [hga0] at e1; rw [hgb0] at e2; cases e2), if_pos HGT.out]
          refine open_set H.out 1 (b1.take sb) sb (by rw [hfd]) (by rw [hfd]; exact HGS.out.2.2.2) (by rw [List.length_take, Nat.min_eq_left HGS.out.2.1]) ?_
          obtain ⟨e0, e1, e2, e3, e4⟩ := HEQ.out
          rw [h9q]
          simp only [e0, e1, e2, e3, e4]
          rfl
        · have hfd : D.found = (1, rb) := by rw [HFD.out]; rw [if_neg (by rintro ⟨e1, e2⟩; rw [hga0] at e1; rw [hgb0] at e2; cases e2), if_pos HGT.out]
          rw [h9y, hfd]
          rfl
      | false =>
        have HGT : Hid (¬ ga < gb) := by show ¬ ga < gb; exact of_decide_eq_false hgt
        have hsa1 : sa ≤ b0.length := HGS.out.1
        obtain ⟨q0, q1, q2, q3, q4, q5, q6, q7, qf⟩ := rd_cells HW0q.out
        obtain ⟨y0, y1, y2, yf⟩ := wal3_cells HW0y.out
        have hqw : q < W0.heap.size := (Array.getElem?_eq_some_iff.1 HW0q.out).1
        have hyw : y < W0.heap.size := (Array.getElem?_eq_some_iff.1 HW0y.out).1
        go_wp2_with fail
        refine wp_region_until (fun w' => w'.cell? ⟨y, 2, none⟩ = some (.int .i64 0) ∧ w'.cell? ⟨q, 0, none⟩ = some (.string (B b0))) 19 (by kernel_rfl) ?_
        have HS0 : ((fun w' => w'.cell? ⟨y, 2, none⟩ = some (.int .i64 0) ∧ w'.cell? ⟨q, 0, none⟩ = some (.string (B b0))) : World → Prop) W0.drew := ⟨y2, q0⟩
        refine wpUntil.takeC (i := 0) (v := (.pointer (some ⟨q, 0, none⟩))) [16, 17, 18, 19] rfl (by kernel_rfl) (by kernel_rfl) (by kernel_rfl) (by kernel_rfl) (fun _ _ _ h => h) (Or.inl ⟨by rfl, fun w hSw => ?hy0⟩) HS0 ?_
        case hy0 => (try dsimp only at hSw); go_simp
        simp only [Act.put, List.getElem_toArray, List.getElem_cons_zero, List.getElem_cons_succ, List.setIfInBounds_toArray, List.set_cons_zero, List.set_cons_succ]
        refine wpUntil.takeC (i := 1) (v := (.pointer (some ⟨y, 0, none⟩))) [2, 3, 4, 18, 19] rfl (by kernel_rfl) (by kernel_rfl) (by kernel_rfl) (by kernel_rfl) (fun _ _ _ h => h) (Or.inl ⟨by rfl, fun w hSw => ?hy1⟩) HS0 ?_
        case hy1 => (try dsimp only at hSw); go_simp
        simp only [Act.put, List.getElem_toArray, List.getElem_cons_zero, List.getElem_cons_succ, List.setIfInBounds_toArray, List.set_cons_zero, List.set_cons_succ]
        refine wpUntil.takeC (i := 2) (v := (.pointer (some ⟨y, 0, none⟩))) [3, 4, 18, 19] rfl (by kernel_rfl) (by kernel_rfl) (by kernel_rfl) (by kernel_rfl) (fun _ _ _ h => h) (Or.inl ⟨by rfl, fun w hSw => ?hy2⟩) HS0 ?_
        case hy2 => (try dsimp only at hSw); go_simp
        simp only [Act.put, List.getElem_toArray, List.getElem_cons_zero, List.getElem_cons_succ, List.setIfInBounds_toArray, List.set_cons_zero, List.set_cons_succ]
        refine wpUntil.takeC (i := 3) (v := (.pointer (some ⟨y, 2, none⟩))) [4, 18, 19] rfl (by kernel_rfl) (by kernel_rfl) (by kernel_rfl) (by kernel_rfl) (fun _ _ _ h => h) (Or.inl ⟨by rfl, fun w hSw => ?hy3⟩) HS0 ?_
        case hy3 => (try dsimp only at hSw); go_simp
        simp only [Act.put, List.getElem_toArray, List.getElem_cons_zero, List.getElem_cons_succ, List.setIfInBounds_toArray, List.set_cons_zero, List.set_cons_succ]
        refine wpUntil.takeC (i := 4) (v := (.int .i64 0)) [18, 19] rfl (by kernel_rfl) (by kernel_rfl) (by kernel_rfl) (by kernel_rfl) (fun _ _ _ h => h) (Or.inl ⟨by rfl, fun w hSw => ?hy4⟩) HS0 ?_
        case hy4 => (try dsimp only at hSw); go_simp
        simp only [Act.put, List.getElem_toArray, List.getElem_cons_zero, List.getElem_cons_succ, List.setIfInBounds_toArray, List.set_cons_zero, List.set_cons_succ]
        refine wpUntil.takeC (i := 5) (v := (.pointer (some ⟨q, 0, none⟩))) [10, 11, 12, 13, 15, 19] rfl (by kernel_rfl) (by kernel_rfl) (by kernel_rfl) (by kernel_rfl) (fun _ _ _ h => h) (Or.inl ⟨by rfl, fun w hSw => ?hy5⟩) HS0 ?_
        case hy5 => (try dsimp only at hSw); go_simp
        simp only [Act.put, List.getElem_toArray, List.getElem_cons_zero, List.getElem_cons_succ, List.setIfInBounds_toArray, List.set_cons_zero, List.set_cons_succ]
        refine wpUntil.takeC (i := 6) (v := (.pointer (some ⟨y, 0, none⟩))) [7, 8, 9, 12, 13, 15, 19] rfl (by kernel_rfl) (by kernel_rfl) (by kernel_rfl) (by kernel_rfl) (fun _ _ _ h => h) (Or.inl ⟨by rfl, fun w hSw => ?hy6⟩) HS0 ?_
        case hy6 => (try dsimp only at hSw); go_simp
        simp only [Act.put, List.getElem_toArray, List.getElem_cons_zero, List.getElem_cons_succ, List.setIfInBounds_toArray, List.set_cons_zero, List.set_cons_succ]
        refine wpUntil.takeC (i := 7) (v := (.pointer (some ⟨y, 0, none⟩))) [8, 9, 12, 13, 15, 19] rfl (by kernel_rfl) (by kernel_rfl) (by kernel_rfl) (by kernel_rfl) (fun _ _ _ h => h) (Or.inl ⟨by rfl, fun w hSw => ?hy7⟩) HS0 ?_
        case hy7 => (try dsimp only at hSw); go_simp
        simp only [Act.put, List.getElem_toArray, List.getElem_cons_zero, List.getElem_cons_succ, List.setIfInBounds_toArray, List.set_cons_zero, List.set_cons_succ]
        refine wpUntil.takeC (i := 8) (v := (.pointer (some ⟨y, 2, none⟩))) [9, 12, 13, 15, 19] rfl (by kernel_rfl) (by kernel_rfl) (by kernel_rfl) (by kernel_rfl) (fun _ _ _ h => h) (Or.inl ⟨by rfl, fun w hSw => ?hy8⟩) HS0 ?_
        case hy8 => (try dsimp only at hSw); go_simp
        simp only [Act.put, List.getElem_toArray, List.getElem_cons_zero, List.getElem_cons_succ, List.setIfInBounds_toArray, List.set_cons_zero, List.set_cons_succ]
        refine wpUntil.takeC (i := 9) (v := (.int .i64 0)) [12, 13, 15, 19] rfl (by kernel_rfl) (by kernel_rfl) (by kernel_rfl) (by kernel_rfl) (fun _ _ _ h => h) (Or.inl ⟨by rfl, fun w hSw => ?hy9⟩) HS0 ?_
        case hy9 => (try dsimp only at hSw); go_simp
        simp only [Act.put, List.getElem_toArray, List.getElem_cons_zero, List.getElem_cons_succ, List.setIfInBounds_toArray, List.set_cons_zero, List.set_cons_succ]
        refine wpUntil.takeC (i := 10) (v := (.pointer (some ⟨q, 0, none⟩))) [11, 12, 13, 15, 19] rfl (by kernel_rfl) (by kernel_rfl) (by kernel_rfl) (by kernel_rfl) (fun _ _ _ h => h) (Or.inl ⟨by rfl, fun w hSw => ?hy10⟩) HS0 ?_
        case hy10 => (try dsimp only at hSw); go_simp
        simp only [Act.put, List.getElem_toArray, List.getElem_cons_zero, List.getElem_cons_succ, List.setIfInBounds_toArray, List.set_cons_zero, List.set_cons_succ]
        refine wpUntil.takeC (i := 11) (v := (.pointer (some ⟨q, 0, none⟩))) [12, 13, 15, 19] rfl (by kernel_rfl) (by kernel_rfl) (by kernel_rfl) (by kernel_rfl) (fun _ _ _ h => h) (Or.inl ⟨by rfl, fun w hSw => ?hy11⟩) HS0 ?_
        case hy11 => (try dsimp only at hSw); go_simp
        simp only [Act.put, List.getElem_toArray, List.getElem_cons_zero, List.getElem_cons_succ, List.setIfInBounds_toArray, List.set_cons_zero, List.set_cons_succ]
        refine wpUntil.takeC (i := 12) (v := (.pointer (some ⟨q, 0, none⟩))) [13, 15, 19] rfl (by kernel_rfl) (by kernel_rfl) (by kernel_rfl) (by kernel_rfl) (fun _ _ _ h => h) (Or.inl ⟨by rfl, fun w hSw => ?hy12⟩) HS0 ?_
        case hy12 => (try dsimp only at hSw); go_simp
        simp only [Act.put, List.getElem_toArray, List.getElem_cons_zero, List.getElem_cons_succ, List.setIfInBounds_toArray, List.set_cons_zero, List.set_cons_succ]
        refine wpUntil.takeC (i := 13) (v := (.string (B b0))) [15, 19] rfl (by kernel_rfl) (by kernel_rfl) (by kernel_rfl) (by kernel_rfl) (fun _ _ _ h => h) (Or.inl ⟨by rfl, fun w hSw => ?hy13⟩) HS0 ?_
        case hy13 => (try dsimp only at hSw); go_simp
        simp only [Act.put, List.getElem_toArray, List.getElem_cons_zero, List.getElem_cons_succ, List.setIfInBounds_toArray, List.set_cons_zero, List.set_cons_succ]
        refine wpUntil.takeC (i := 14) (v := (.int .i64 (sa : Nat))) [15, 19] rfl (by kernel_rfl) (by kernel_rfl) (by kernel_rfl) (by kernel_rfl) (fun _ _ _ h => h) (Or.inl ⟨by rfl, fun w hSw => ?hy14⟩) HS0 ?_
        case hy14 => (try dsimp only at hSw); go_simp
        simp only [Act.put, List.getElem_toArray, List.getElem_cons_zero, List.getElem_cons_succ, List.setIfInBounds_toArray, List.set_cons_zero, List.set_cons_succ]
        refine wpUntil.takeC (i := 15) (v := (.string (B (b0.take sa)))) [19] rfl (by kernel_rfl) (by kernel_rfl) (by kernel_rfl) (by kernel_rfl) (fun _ _ _ h => h) (Or.inl ⟨by rfl, fun w hSw => ?hy15⟩) HS0 ?_
        case hy15 => (try dsimp only at hSw); go_simp
        simp only [Act.put, List.getElem_toArray, List.getElem_cons_zero, List.getElem_cons_succ, List.setIfInBounds_toArray, List.set_cons_zero, List.set_cons_succ]
        refine wpUntil.takeC (i := 16) (v := (.pointer (some ⟨q, 0, none⟩))) [17, 18, 19] rfl (by kernel_rfl) (by kernel_rfl) (by kernel_rfl) (by kernel_rfl) (fun _ _ _ h => h) (Or.inl ⟨by rfl, fun w hSw => ?hy16⟩) HS0 ?_
        case hy16 => (try dsimp only at hSw); go_simp
        simp only [Act.put, List.getElem_toArray, List.getElem_cons_zero, List.getElem_cons_succ, List.setIfInBounds_toArray, List.set_cons_zero, List.set_cons_succ]
        refine wpUntil.takeC (i := 17) (v := (.pointer (some ⟨q, 0, none⟩))) [18, 19] rfl (by kernel_rfl) (by kernel_rfl) (by kernel_rfl) (by kernel_rfl) (fun _ _ _ h => h) (Or.inl ⟨by rfl, fun w hSw => ?hy17⟩) HS0 ?_
        case hy17 => (try dsimp only at hSw); go_simp
        simp only [Act.put, List.getElem_toArray, List.getElem_cons_zero, List.getElem_cons_succ, List.setIfInBounds_toArray, List.set_cons_zero, List.set_cons_succ]
        refine wpUntil.takeC (i := 18) (v := (.pointer (some ⟨q, 0, none⟩))) [19] rfl (by kernel_rfl) (by kernel_rfl) (by kernel_rfl) (by kernel_rfl) (fun _ _ _ h => h) (Or.inl ⟨by rfl, fun w hSw => ?hy18⟩) HS0 ?_
        case hy18 => (try dsimp only at hSw); go_simp
        simp only [Act.put, List.getElem_toArray, List.getElem_cons_zero, List.getElem_cons_succ, List.setIfInBounds_toArray, List.set_cons_zero, List.set_cons_succ]
        refine wpUntil.only (i := 19) rfl (by kernel_rfl) (by rfl) ?_
        simp only [Act.put, List.getElem_toArray, List.getElem_cons_zero, List.getElem_cons_succ, List.setIfInBounds_toArray, List.set_cons_zero, List.set_cons_succ]
        go_simp
        refine ⟨by kernel_rfl, ?_⟩
        refine world_any (F := fun W => W.heap[q]? = some (.cells #[.string (B (b0.take sa)), .string (B b1), .int .i64 l0, .int .i64 l1, .int .i64 due, .int .i64 kp, .int .i64 U, .int .i64 M] 222) ∧ W.heap[y]? = some (.cells #[.pointer (some ⟨q, 0, none⟩), .int .i64 0, .int .i64 0] 224) ∧ w.turned W (fun k => k = q)) ⟨((cells_set HW0q.out _).trans (by simp only [List.setIfInBounds_toArray, List.set_cons_succ, List.set_cons_zero])), ((Below.heap_setCell _ _ _ _ hyq).trans HW0y.out), (turned_set (S := fun k => k = q) HW0t.out rfl _).drew⟩ ?_
        rintro V1 ⟨hV1q, hV1y, hV1t⟩
        have HV1q : Hid (V1.heap[q]? = some (.cells #[.string (B (b0.take sa)), .string (B b1), .int .i64 l0, .int .i64 l1, .int .i64 due, .int .i64 kp, .int .i64 U, .int .i64 M] 222)) := hV1q
        have HV1y : Hid (V1.heap[y]? = some (.cells #[.pointer (some ⟨q, 0, none⟩), .int .i64 0, .int .i64 0] 224)) := hV1y
        have HV1t : Hid (w.turned V1 (fun k => k = q)) := hV1t
        clear hV1q hV1y hV1t
        clear q0 q1 q2 q3 q4 q5 q6 q7 qf y0 y1 y2 yf hqw hyw
        obtain ⟨q0, q1, q2, q3, q4, q5, q6, q7, qf⟩ := rd_cells HV1q.out
        obtain ⟨y0, y1, y2, yf⟩ := wal3_cells HV1y.out
        have hqw : q < V1.heap.size := (Array.getElem?_eq_some_iff.1 HV1q.out).1
        have hyw : y < V1.heap.size := (Array.getElem?_eq_some_iff.1 HV1y.out).1
        go_wp2_with fail
        go_region_held3 (fun w' => w'.cell? ⟨y, 2, none⟩ = some (.int .i64 0)) (first | exact y2 | exact cell_other hyq y2) (fail)
        refine world_any (F := fun W => W.heap[q]? = some (.cells #[.string (B (b0.take sa)), .string (B b1), .int .i64 sa, .int .i64 l1, .int .i64 due, .int .i64 kp, .int .i64 U, .int .i64 M] 222) ∧ W.heap[y]? = some (.cells #[.pointer (some ⟨q, 0, none⟩), .int .i64 0, .int .i64 0] 224) ∧ w.turned W (fun k => k = q)) ⟨((cells_set HV1q.out _).trans (by simp only [List.setIfInBounds_toArray, List.set_cons_succ, List.set_cons_zero])), ((Below.heap_setCell _ _ _ _ hyq).trans HV1y.out), (turned_set (S := fun k => k = q) HV1t.out rfl _).drew⟩ ?_
        rintro V2 ⟨hV2q, hV2y, hV2t⟩
        have HV2q : Hid (V2.heap[q]? = some (.cells #[.string (B (b0.take sa)), .string (B b1), .int .i64 sa, .int .i64 l1, .int .i64 due, .int .i64 kp, .int .i64 U, .int .i64 M] 222)) := hV2q
        have HV2y : Hid (V2.heap[y]? = some (.cells #[.pointer (some ⟨q, 0, none⟩), .int .i64 0, .int .i64 0] 224)) := hV2y
        have HV2t : Hid (w.turned V2 (fun k => k = q)) := hV2t
        clear hV2q hV2y hV2t
        clear q0 q1 q2 q3 q4 q5 q6 q7 qf y0 y1 y2 yf hqw hyw
        obtain ⟨q0, q1, q2, q3, q4, q5, q6, q7, qf⟩ := rd_cells HV2q.out
        obtain ⟨y0, y1, y2, yf⟩ := wal3_cells HV2y.out
        have hqw : q < V2.heap.size := (Array.getElem?_eq_some_iff.1 HV2q.out).1
        have hyw : y < V2.heap.size := (Array.getElem?_eq_some_iff.1 HV2y.out).1
        go_wp2_with fail
        refine world_any (F := fun W => W.heap[q]? = some (.cells #[.string (B (b0.take sa)), .string (B b1), .int .i64 sa, .int .i64 l1, .int .i64 due, .int .i64 kp, .int .i64 M1, .int .i64 M1] 222) ∧ W.heap[y]? = some (.cells #[.pointer (some ⟨q, 0, none⟩), .int .i64 M1, .int .i64 0] 224) ∧ w.turned W (fun k => k = q)) ⟨?_, ?_, ?_⟩ ?_
        · refine (Below.heap_setCell _ _ _ _ (fun e => hyq e.symm)).trans ((cells_set (cells_set HV2q.out _) _).trans ?_)
          simp only [List.setIfInBounds_toArray, List.set_cons_succ, List.set_cons_zero]
        · refine (cells_set ((Below.heap_setCell _ _ _ _ hyq).trans ((Below.heap_setCell _ _ _ _ hyq).trans HV2y.out)) _).trans ?_
          simp only [List.setIfInBounds_toArray, List.set_cons_succ, List.set_cons_zero]
        · refine ⟨HV2t.out.os, HV2t.out.tape, HV2t.out.output, by simp only [World.size_setCell]; exact HV2t.out.size, fun k hk hn => ?_⟩
          have hky : k ≠ y := fun e => by have := HYW.out; omega
          exact (Below.heap_setCell _ _ _ _ hky).trans ((Below.heap_setCell _ _ _ _ hn).trans ((Below.heap_setCell _ _ _ _ hn).trans (HV2t.out.block k hk hn)))
        rintro W9 ⟨h9q, h9y, h9t⟩
        go_ret
        refine ⟨y, rfl, HYW.out, ?_, ?_, h9t⟩
        · have hfd : D.found = (0, ra) := by rw [HFD.out]; rw [if_neg (by rintro ⟨e1, e2⟩; rw [hga0] at e1; rw [hgb0] at e2; cases e2), if_neg (by have := HGT.out; omega)]
          refine open_set H.out 0 (b0.take sa) sa (by rw [hfd]) (by rw [hfd]; exact HGS.out.2.2.1) (by rw [List.length_take, Nat.min_eq_left HGS.out.1]) ?_
          obtain ⟨e0, e1, e2, e3, e4⟩ := HEQ.out
          rw [h9q]
          simp only [e0, e1, e2, e3, e4]
          rfl
        · have hfd : D.found = (0, ra) := by rw [HFD.out]; rw [if_neg (by rintro ⟨e1, e2⟩; rw [hga0] at e1; rw [hgb0] at e2; cases e2), if_neg (by have := HGT.out; omega)]
          rw [h9y, hfd]
          rfl
  | false =>
    go_wp2_with fail
    refine HBB0.out.mono ?_
    rintro e w5 ⟨rfl, hw5⟩
    rw [hw5]
    clear hw5 w5
    go_wp2_with fail
    refine HBA0.out.mono ?_
    rintro e w6 ⟨rfl, hw6⟩
    rw [hw6]
    clear hw6 w6
    cases hgt : decide (ga < gb) with
    | true =>
      have HGT : Hid (ga < gb) := by show ga < gb; exact of_decide_eq_true hgt
      obtain ⟨y0, y1, y2, yf⟩ := wal3_cells HW0y.out
      have hyw : y < W0.heap.size := (Array.getElem?_eq_some_iff.1 HW0y.out).1
      have hsb1 : sb ≤ b1.length := HGS.out.2.1
      go_wp2_with fail
      refine world_any (F := fun W => W.heap[q]? = some (.cells #[.string (B b0), .string (B b1), .int .i64 l0, .int .i64 l1, .int .i64 due, .int .i64 kp, .int .i64 U, .int .i64 M] 222) ∧ W.heap[y]? = some (.cells #[.pointer (some ⟨q, 0, none⟩), .int .i64 0, .int .i64 1] 224) ∧ w.turned W (fun k => k = q)) ⟨((Below.heap_setCell _ _ _ _ (fun e => hyq e.symm)).trans HW0q.out), ((cells_set HW0y.out _).trans (by simp only [List.setIfInBounds_toArray, List.set_cons_succ, List.set_cons_zero])), ⟨HW0t.out.os, HW0t.out.tape, HW0t.out.output, (by simp only [World.size_setCell]; exact HW0t.out.size), fun k hk hn => (Below.heap_setCell _ _ _ _ (fun e => by have e' : k = y := e; have := HYW.out; omega)).trans (HW0t.out.block k hk hn)⟩⟩ ?_
      rintro V0 ⟨hV0q, hV0y, hV0t⟩
      have HV0q : Hid (V0.heap[q]? = some (.cells #[.string (B b0), .string (B b1), .int .i64 l0, .int .i64 l1, .int .i64 due, .int .i64 kp, .int .i64 U, .int .i64 M] 222)) := hV0q
      have HV0y : Hid (V0.heap[y]? = some (.cells #[.pointer (some ⟨q, 0, none⟩), .int .i64 0, .int .i64 1] 224)) := hV0y
      have HV0t : Hid (w.turned V0 (fun k => k = q)) := hV0t
      clear hV0q hV0y hV0t
      clear y0 y1 y2 yf hyw
      obtain ⟨q0, q1, q2, q3, q4, q5, q6, q7, qf⟩ := rd_cells HV0q.out
      obtain ⟨y0, y1, y2, yf⟩ := wal3_cells HV0y.out
      have hqw : q < V0.heap.size := (Array.getElem?_eq_some_iff.1 HV0q.out).1
      have hyw : y < V0.heap.size := (Array.getElem?_eq_some_iff.1 HV0y.out).1
      go_wp2_with fail
      refine wp_region_until (fun w' => w'.cell? ⟨y, 2, none⟩ = some (.int .i64 1) ∧ w'.cell? ⟨q, 1, none⟩ = some (.string (B b1))) 19 (by kernel_rfl) ?_
      have HS0 : ((fun w' => w'.cell? ⟨y, 2, none⟩ = some (.int .i64 1) ∧ w'.cell? ⟨q, 1, none⟩ = some (.string (B b1))) : World → Prop) V0.drew := ⟨y2, q1⟩
      refine wpUntil.takeC (i := 0) (v := (.pointer (some ⟨q, 0, none⟩))) [16, 17, 18, 19] rfl (by kernel_rfl) (by kernel_rfl) (by kernel_rfl) (by kernel_rfl) (fun _ _ _ h => h) (Or.inl ⟨by rfl, fun w hSw => ?hy0⟩) HS0 ?_
      case hy0 => (try dsimp only at hSw); go_simp
      simp only [Act.put, List.getElem_toArray, List.getElem_cons_zero, List.getElem_cons_succ, List.setIfInBounds_toArray, List.set_cons_zero, List.set_cons_succ]
      refine wpUntil.takeC (i := 1) (v := (.pointer (some ⟨y, 0, none⟩))) [2, 3, 4, 18, 19] rfl (by kernel_rfl) (by kernel_rfl) (by kernel_rfl) (by kernel_rfl) (fun _ _ _ h => h) (Or.inl ⟨by rfl, fun w hSw => ?hy1⟩) HS0 ?_
      case hy1 => (try dsimp only at hSw); go_simp
      simp only [Act.put, List.getElem_toArray, List.getElem_cons_zero, List.getElem_cons_succ, List.setIfInBounds_toArray, List.set_cons_zero, List.set_cons_succ]
      refine wpUntil.takeC (i := 2) (v := (.pointer (some ⟨y, 0, none⟩))) [3, 4, 18, 19] rfl (by kernel_rfl) (by kernel_rfl) (by kernel_rfl) (by kernel_rfl) (fun _ _ _ h => h) (Or.inl ⟨by rfl, fun w hSw => ?hy2⟩) HS0 ?_
      case hy2 => (try dsimp only at hSw); go_simp
      simp only [Act.put, List.getElem_toArray, List.getElem_cons_zero, List.getElem_cons_succ, List.setIfInBounds_toArray, List.set_cons_zero, List.set_cons_succ]
      refine wpUntil.takeC (i := 3) (v := (.pointer (some ⟨y, 2, none⟩))) [4, 18, 19] rfl (by kernel_rfl) (by kernel_rfl) (by kernel_rfl) (by kernel_rfl) (fun _ _ _ h => h) (Or.inl ⟨by rfl, fun w hSw => ?hy3⟩) HS0 ?_
      case hy3 => (try dsimp only at hSw); go_simp
      simp only [Act.put, List.getElem_toArray, List.getElem_cons_zero, List.getElem_cons_succ, List.setIfInBounds_toArray, List.set_cons_zero, List.set_cons_succ]
      refine wpUntil.takeC (i := 4) (v := (.int .i64 1)) [18, 19] rfl (by kernel_rfl) (by kernel_rfl) (by kernel_rfl) (by kernel_rfl) (fun _ _ _ h => h) (Or.inl ⟨by rfl, fun w hSw => ?hy4⟩) HS0 ?_
      case hy4 => (try dsimp only at hSw); go_simp
      simp only [Act.put, List.getElem_toArray, List.getElem_cons_zero, List.getElem_cons_succ, List.setIfInBounds_toArray, List.set_cons_zero, List.set_cons_succ]
      refine wpUntil.takeC (i := 5) (v := (.pointer (some ⟨q, 0, none⟩))) [10, 11, 12, 13, 15, 19] rfl (by kernel_rfl) (by kernel_rfl) (by kernel_rfl) (by kernel_rfl) (fun _ _ _ h => h) (Or.inl ⟨by rfl, fun w hSw => ?hy5⟩) HS0 ?_
      case hy5 => (try dsimp only at hSw); go_simp
      simp only [Act.put, List.getElem_toArray, List.getElem_cons_zero, List.getElem_cons_succ, List.setIfInBounds_toArray, List.set_cons_zero, List.set_cons_succ]
      refine wpUntil.takeC (i := 6) (v := (.pointer (some ⟨y, 0, none⟩))) [7, 8, 9, 12, 13, 15, 19] rfl (by kernel_rfl) (by kernel_rfl) (by kernel_rfl) (by kernel_rfl) (fun _ _ _ h => h) (Or.inl ⟨by rfl, fun w hSw => ?hy6⟩) HS0 ?_
      case hy6 => (try dsimp only at hSw); go_simp
      simp only [Act.put, List.getElem_toArray, List.getElem_cons_zero, List.getElem_cons_succ, List.setIfInBounds_toArray, List.set_cons_zero, List.set_cons_succ]
      refine wpUntil.takeC (i := 7) (v := (.pointer (some ⟨y, 0, none⟩))) [8, 9, 12, 13, 15, 19] rfl (by kernel_rfl) (by kernel_rfl) (by kernel_rfl) (by kernel_rfl) (fun _ _ _ h => h) (Or.inl ⟨by rfl, fun w hSw => ?hy7⟩) HS0 ?_
      case hy7 => (try dsimp only at hSw); go_simp
      simp only [Act.put, List.getElem_toArray, List.getElem_cons_zero, List.getElem_cons_succ, List.setIfInBounds_toArray, List.set_cons_zero, List.set_cons_succ]
      refine wpUntil.takeC (i := 8) (v := (.pointer (some ⟨y, 2, none⟩))) [9, 12, 13, 15, 19] rfl (by kernel_rfl) (by kernel_rfl) (by kernel_rfl) (by kernel_rfl) (fun _ _ _ h => h) (Or.inl ⟨by rfl, fun w hSw => ?hy8⟩) HS0 ?_
      case hy8 => (try dsimp only at hSw); go_simp
      simp only [Act.put, List.getElem_toArray, List.getElem_cons_zero, List.getElem_cons_succ, List.setIfInBounds_toArray, List.set_cons_zero, List.set_cons_succ]
      refine wpUntil.takeC (i := 9) (v := (.int .i64 1)) [12, 13, 15, 19] rfl (by kernel_rfl) (by kernel_rfl) (by kernel_rfl) (by kernel_rfl) (fun _ _ _ h => h) (Or.inl ⟨by rfl, fun w hSw => ?hy9⟩) HS0 ?_
      case hy9 => (try dsimp only at hSw); go_simp
      simp only [Act.put, List.getElem_toArray, List.getElem_cons_zero, List.getElem_cons_succ, List.setIfInBounds_toArray, List.set_cons_zero, List.set_cons_succ]
      refine wpUntil.takeC (i := 10) (v := (.pointer (some ⟨q, 0, none⟩))) [11, 12, 13, 15, 19] rfl (by kernel_rfl) (by kernel_rfl) (by kernel_rfl) (by kernel_rfl) (fun _ _ _ h => h) (Or.inl ⟨by rfl, fun w hSw => ?hy10⟩) HS0 ?_
      case hy10 => (try dsimp only at hSw); go_simp
      simp only [Act.put, List.getElem_toArray, List.getElem_cons_zero, List.getElem_cons_succ, List.setIfInBounds_toArray, List.set_cons_zero, List.set_cons_succ]
      refine wpUntil.takeC (i := 11) (v := (.pointer (some ⟨q, 0, none⟩))) [12, 13, 15, 19] rfl (by kernel_rfl) (by kernel_rfl) (by kernel_rfl) (by kernel_rfl) (fun _ _ _ h => h) (Or.inl ⟨by rfl, fun w hSw => ?hy11⟩) HS0 ?_
      case hy11 => (try dsimp only at hSw); go_simp
      simp only [Act.put, List.getElem_toArray, List.getElem_cons_zero, List.getElem_cons_succ, List.setIfInBounds_toArray, List.set_cons_zero, List.set_cons_succ]
      refine wpUntil.takeC (i := 12) (v := (.pointer (some ⟨q, 1, none⟩))) [13, 15, 19] rfl (by kernel_rfl) (by kernel_rfl) (by kernel_rfl) (by kernel_rfl) (fun _ _ _ h => h) (Or.inl ⟨by rfl, fun w hSw => ?hy12⟩) HS0 ?_
      case hy12 => (try dsimp only at hSw); go_simp
      simp only [Act.put, List.getElem_toArray, List.getElem_cons_zero, List.getElem_cons_succ, List.setIfInBounds_toArray, List.set_cons_zero, List.set_cons_succ]
      refine wpUntil.takeC (i := 13) (v := (.string (B b1))) [15, 19] rfl (by kernel_rfl) (by kernel_rfl) (by kernel_rfl) (by kernel_rfl) (fun _ _ _ h => h) (Or.inl ⟨by rfl, fun w hSw => ?hy13⟩) HS0 ?_
      case hy13 => (try dsimp only at hSw); go_simp
      simp only [Act.put, List.getElem_toArray, List.getElem_cons_zero, List.getElem_cons_succ, List.setIfInBounds_toArray, List.set_cons_zero, List.set_cons_succ]
      refine wpUntil.takeC (i := 14) (v := (.int .i64 (sb : Nat))) [15, 19] rfl (by kernel_rfl) (by kernel_rfl) (by kernel_rfl) (by kernel_rfl) (fun _ _ _ h => h) (Or.inl ⟨by rfl, fun w hSw => ?hy14⟩) HS0 ?_
      case hy14 => (try dsimp only at hSw); go_simp
      simp only [Act.put, List.getElem_toArray, List.getElem_cons_zero, List.getElem_cons_succ, List.setIfInBounds_toArray, List.set_cons_zero, List.set_cons_succ]
      refine wpUntil.takeC (i := 15) (v := (.string (B (b1.take sb)))) [19] rfl (by kernel_rfl) (by kernel_rfl) (by kernel_rfl) (by kernel_rfl) (fun _ _ _ h => h) (Or.inl ⟨by rfl, fun w hSw => ?hy15⟩) HS0 ?_
      case hy15 => (try dsimp only at hSw); go_simp
      simp only [Act.put, List.getElem_toArray, List.getElem_cons_zero, List.getElem_cons_succ, List.setIfInBounds_toArray, List.set_cons_zero, List.set_cons_succ]
      refine wpUntil.takeC (i := 16) (v := (.pointer (some ⟨q, 0, none⟩))) [17, 18, 19] rfl (by kernel_rfl) (by kernel_rfl) (by kernel_rfl) (by kernel_rfl) (fun _ _ _ h => h) (Or.inl ⟨by rfl, fun w hSw => ?hy16⟩) HS0 ?_
      case hy16 => (try dsimp only at hSw); go_simp
      simp only [Act.put, List.getElem_toArray, List.getElem_cons_zero, List.getElem_cons_succ, List.setIfInBounds_toArray, List.set_cons_zero, List.set_cons_succ]
      refine wpUntil.takeC (i := 17) (v := (.pointer (some ⟨q, 0, none⟩))) [18, 19] rfl (by kernel_rfl) (by kernel_rfl) (by kernel_rfl) (by kernel_rfl) (fun _ _ _ h => h) (Or.inl ⟨by rfl, fun w hSw => ?hy17⟩) HS0 ?_
      case hy17 => (try dsimp only at hSw); go_simp
      simp only [Act.put, List.getElem_toArray, List.getElem_cons_zero, List.getElem_cons_succ, List.setIfInBounds_toArray, List.set_cons_zero, List.set_cons_succ]
      refine wpUntil.takeC (i := 18) (v := (.pointer (some ⟨q, 1, none⟩))) [19] rfl (by kernel_rfl) (by kernel_rfl) (by kernel_rfl) (by kernel_rfl) (fun _ _ _ h => h) (Or.inl ⟨by rfl, fun w hSw => ?hy18⟩) HS0 ?_
      case hy18 => (try dsimp only at hSw); go_simp
      simp only [Act.put, List.getElem_toArray, List.getElem_cons_zero, List.getElem_cons_succ, List.setIfInBounds_toArray, List.set_cons_zero, List.set_cons_succ]
      refine wpUntil.only (i := 19) rfl (by kernel_rfl) (by rfl) ?_
      simp only [Act.put, List.getElem_toArray, List.getElem_cons_zero, List.getElem_cons_succ, List.setIfInBounds_toArray, List.set_cons_zero, List.set_cons_succ]
      go_simp
      refine ⟨by kernel_rfl, ?_⟩
      refine world_any (F := fun W => W.heap[q]? = some (.cells #[.string (B b0), .string (B (b1.take sb)), .int .i64 l0, .int .i64 l1, .int .i64 due, .int .i64 kp, .int .i64 U, .int .i64 M] 222) ∧ W.heap[y]? = some (.cells #[.pointer (some ⟨q, 0, none⟩), .int .i64 0, .int .i64 1] 224) ∧ w.turned W (fun k => k = q)) ⟨((cells_set HV0q.out _).trans (by simp only [List.setIfInBounds_toArray, List.set_cons_succ, List.set_cons_zero])), ((Below.heap_setCell _ _ _ _ hyq).trans HV0y.out), (turned_set (S := fun k => k = q) HV0t.out rfl _).drew⟩ ?_
      rintro V1 ⟨hV1q, hV1y, hV1t⟩
      have HV1q : Hid (V1.heap[q]? = some (.cells #[.string (B b0), .string (B (b1.take sb)), .int .i64 l0, .int .i64 l1, .int .i64 due, .int .i64 kp, .int .i64 U, .int .i64 M] 222)) := hV1q
      have HV1y : Hid (V1.heap[y]? = some (.cells #[.pointer (some ⟨q, 0, none⟩), .int .i64 0, .int .i64 1] 224)) := hV1y
      have HV1t : Hid (w.turned V1 (fun k => k = q)) := hV1t
      clear hV1q hV1y hV1t
      clear q0 q1 q2 q3 q4 q5 q6 q7 qf y0 y1 y2 yf hqw hyw
      obtain ⟨q0, q1, q2, q3, q4, q5, q6, q7, qf⟩ := rd_cells HV1q.out
      obtain ⟨y0, y1, y2, yf⟩ := wal3_cells HV1y.out
      have hqw : q < V1.heap.size := (Array.getElem?_eq_some_iff.1 HV1q.out).1
      have hyw : y < V1.heap.size := (Array.getElem?_eq_some_iff.1 HV1y.out).1
      go_wp2_with fail
      go_region_held3 (fun w' => w'.cell? ⟨y, 2, none⟩ = some (.int .i64 1)) (first | exact y2 | exact cell_other hyq y2) (fail)
      refine world_any (F := fun W => W.heap[q]? = some (.cells #[.string (B b0), .string (B (b1.take sb)), .int .i64 l0, .int .i64 sb, .int .i64 due, .int .i64 kp, .int .i64 U, .int .i64 M] 222) ∧ W.heap[y]? = some (.cells #[.pointer (some ⟨q, 0, none⟩), .int .i64 0, .int .i64 1] 224) ∧ w.turned W (fun k => k = q)) ⟨((cells_set HV1q.out _).trans (by simp only [List.setIfInBounds_toArray, List.set_cons_succ, List.set_cons_zero])), ((Below.heap_setCell _ _ _ _ hyq).trans HV1y.out), (turned_set (S := fun k => k = q) HV1t.out rfl _).drew⟩ ?_
      rintro V2 ⟨hV2q, hV2y, hV2t⟩
      have HV2q : Hid (V2.heap[q]? = some (.cells #[.string (B b0), .string (B (b1.take sb)), .int .i64 l0, .int .i64 sb, .int .i64 due, .int .i64 kp, .int .i64 U, .int .i64 M] 222)) := hV2q
      have HV2y : Hid (V2.heap[y]? = some (.cells #[.pointer (some ⟨q, 0, none⟩), .int .i64 0, .int .i64 1] 224)) := hV2y
      have HV2t : Hid (w.turned V2 (fun k => k = q)) := hV2t
      clear hV2q hV2y hV2t
      clear q0 q1 q2 q3 q4 q5 q6 q7 qf y0 y1 y2 yf hqw hyw
      obtain ⟨q0, q1, q2, q3, q4, q5, q6, q7, qf⟩ := rd_cells HV2q.out
      obtain ⟨y0, y1, y2, yf⟩ := wal3_cells HV2y.out
      have hqw : q < V2.heap.size := (Array.getElem?_eq_some_iff.1 HV2q.out).1
      have hyw : y < V2.heap.size := (Array.getElem?_eq_some_iff.1 HV2y.out).1
      go_wp2_with fail
      refine world_any (F := fun W => W.heap[q]? = some (.cells #[.string (B b0), .string (B (b1.take sb)), .int .i64 l0, .int .i64 sb, .int .i64 due, .int .i64 kp, .int .i64 M1, .int .i64 M1] 222) ∧ W.heap[y]? = some (.cells #[.pointer (some ⟨q, 0, none⟩), .int .i64 M1, .int .i64 1] 224) ∧ w.turned W (fun k => k = q)) ⟨?_, ?_, ?_⟩ ?_
      · refine (Below.heap_setCell _ _ _ _ (fun e => hyq e.symm)).trans ((cells_set (cells_set HV2q.out _) _).trans ?_)
        simp only [List.setIfInBounds_toArray, List.set_cons_succ, List.set_cons_zero]
      · refine (cells_set ((Below.heap_setCell _ _ _ _ hyq).trans ((Below.heap_setCell _ _ _ _ hyq).trans HV2y.out)) _).trans ?_
        simp only [List.setIfInBounds_toArray, List.set_cons_succ, List.set_cons_zero]
      · refine ⟨HV2t.out.os, HV2t.out.tape, HV2t.out.output, by simp only [World.size_setCell]; exact HV2t.out.size, fun k hk hn => ?_⟩
        have hky : k ≠ y := fun e => by have := HYW.out; omega
        exact (Below.heap_setCell _ _ _ _ hky).trans ((Below.heap_setCell _ _ _ _ hn).trans ((Below.heap_setCell _ _ _ _ hn).trans (HV2t.out.block k hk hn)))
      rintro W9 ⟨h9q, h9y, h9t⟩
      go_ret
      refine ⟨y, rfl, HYW.out, ?_, ?_, h9t⟩
      · have hfd : D.found = (1, rb) := by rw [HFD.out]; rw [if_neg (by rintro ⟨e1, e2⟩; rw [hga0] at e1; cases e1), if_pos HGT.out]
        refine open_set H.out 1 (b1.take sb) sb (by rw [hfd]) (by rw [hfd]; exact HGS.out.2.2.2) (by rw [List.length_take, Nat.min_eq_left HGS.out.2.1]) ?_
        obtain ⟨e0, e1, e2, e3, e4⟩ := HEQ.out
        rw [h9q]
        simp only [e0, e1, e2, e3, e4]
        rfl
      · have hfd : D.found = (1, rb) := by rw [HFD.out]; rw [if_neg (by rintro ⟨e1, e2⟩; rw [hga0] at e1; cases e1), if_pos HGT.out]
        rw [h9y, hfd]
        rfl
    | false =>
      have HGT : Hid (¬ ga < gb) := by show ¬ ga < gb; exact of_decide_eq_false hgt
      have hsa1 : sa ≤ b0.length := HGS.out.1
      obtain ⟨q0, q1, q2, q3, q4, q5, q6, q7, qf⟩ := rd_cells HW0q.out
      obtain ⟨y0, y1, y2, yf⟩ := wal3_cells HW0y.out
      have hqw : q < W0.heap.size := (Array.getElem?_eq_some_iff.1 HW0q.out).1
      have hyw : y < W0.heap.size := (Array.getElem?_eq_some_iff.1 HW0y.out).1
      go_wp2_with fail
      refine wp_region_until (fun w' => w'.cell? ⟨y, 2, none⟩ = some (.int .i64 0) ∧ w'.cell? ⟨q, 0, none⟩ = some (.string (B b0))) 19 (by kernel_rfl) ?_
      have HS0 : ((fun w' => w'.cell? ⟨y, 2, none⟩ = some (.int .i64 0) ∧ w'.cell? ⟨q, 0, none⟩ = some (.string (B b0))) : World → Prop) W0.drew := ⟨y2, q0⟩
      refine wpUntil.takeC (i := 0) (v := (.pointer (some ⟨q, 0, none⟩))) [16, 17, 18, 19] rfl (by kernel_rfl) (by kernel_rfl) (by kernel_rfl) (by kernel_rfl) (fun _ _ _ h => h) (Or.inl ⟨by rfl, fun w hSw => ?hy0⟩) HS0 ?_
      case hy0 => (try dsimp only at hSw); go_simp
      simp only [Act.put, List.getElem_toArray, List.getElem_cons_zero, List.getElem_cons_succ, List.setIfInBounds_toArray, List.set_cons_zero, List.set_cons_succ]
      refine wpUntil.takeC (i := 1) (v := (.pointer (some ⟨y, 0, none⟩))) [2, 3, 4, 18, 19] rfl (by kernel_rfl) (by kernel_rfl) (by kernel_rfl) (by kernel_rfl) (fun _ _ _ h => h) (Or.inl ⟨by rfl, fun w hSw => ?hy1⟩) HS0 ?_
      case hy1 => (try dsimp only at hSw); go_simp
      simp only [Act.put, List.getElem_toArray, List.getElem_cons_zero, List.getElem_cons_succ, List.setIfInBounds_toArray, List.set_cons_zero, List.set_cons_succ]
      refine wpUntil.takeC (i := 2) (v := (.pointer (some ⟨y, 0, none⟩))) [3, 4, 18, 19] rfl (by kernel_rfl) (by kernel_rfl) (by kernel_rfl) (by kernel_rfl) (fun _ _ _ h => h) (Or.inl ⟨by rfl, fun w hSw => ?hy2⟩) HS0 ?_
      case hy2 => (try dsimp only at hSw); go_simp
      simp only [Act.put, List.getElem_toArray, List.getElem_cons_zero, List.getElem_cons_succ, List.setIfInBounds_toArray, List.set_cons_zero, List.set_cons_succ]
      refine wpUntil.takeC (i := 3) (v := (.pointer (some ⟨y, 2, none⟩))) [4, 18, 19] rfl (by kernel_rfl) (by kernel_rfl) (by kernel_rfl) (by kernel_rfl) (fun _ _ _ h => h) (Or.inl ⟨by rfl, fun w hSw => ?hy3⟩) HS0 ?_
      case hy3 => (try dsimp only at hSw); go_simp
      simp only [Act.put, List.getElem_toArray, List.getElem_cons_zero, List.getElem_cons_succ, List.setIfInBounds_toArray, List.set_cons_zero, List.set_cons_succ]
      refine wpUntil.takeC (i := 4) (v := (.int .i64 0)) [18, 19] rfl (by kernel_rfl) (by kernel_rfl) (by kernel_rfl) (by kernel_rfl) (fun _ _ _ h => h) (Or.inl ⟨by rfl, fun w hSw => ?hy4⟩) HS0 ?_
      case hy4 => (try dsimp only at hSw); go_simp
      simp only [Act.put, List.getElem_toArray, List.getElem_cons_zero, List.getElem_cons_succ, List.setIfInBounds_toArray, List.set_cons_zero, List.set_cons_succ]
      refine wpUntil.takeC (i := 5) (v := (.pointer (some ⟨q, 0, none⟩))) [10, 11, 12, 13, 15, 19] rfl (by kernel_rfl) (by kernel_rfl) (by kernel_rfl) (by kernel_rfl) (fun _ _ _ h => h) (Or.inl ⟨by rfl, fun w hSw => ?hy5⟩) HS0 ?_
      case hy5 => (try dsimp only at hSw); go_simp
      simp only [Act.put, List.getElem_toArray, List.getElem_cons_zero, List.getElem_cons_succ, List.setIfInBounds_toArray, List.set_cons_zero, List.set_cons_succ]
      refine wpUntil.takeC (i := 6) (v := (.pointer (some ⟨y, 0, none⟩))) [7, 8, 9, 12, 13, 15, 19] rfl (by kernel_rfl) (by kernel_rfl) (by kernel_rfl) (by kernel_rfl) (fun _ _ _ h => h) (Or.inl ⟨by rfl, fun w hSw => ?hy6⟩) HS0 ?_
      case hy6 => (try dsimp only at hSw); go_simp
      simp only [Act.put, List.getElem_toArray, List.getElem_cons_zero, List.getElem_cons_succ, List.setIfInBounds_toArray, List.set_cons_zero, List.set_cons_succ]
      refine wpUntil.takeC (i := 7) (v := (.pointer (some ⟨y, 0, none⟩))) [8, 9, 12, 13, 15, 19] rfl (by kernel_rfl) (by kernel_rfl) (by kernel_rfl) (by kernel_rfl) (fun _ _ _ h => h) (Or.inl ⟨by rfl, fun w hSw => ?hy7⟩) HS0 ?_
      case hy7 => (try dsimp only at hSw); go_simp
      simp only [Act.put, List.getElem_toArray, List.getElem_cons_zero, List.getElem_cons_succ, List.setIfInBounds_toArray, List.set_cons_zero, List.set_cons_succ]
      refine wpUntil.takeC (i := 8) (v := (.pointer (some ⟨y, 2, none⟩))) [9, 12, 13, 15, 19] rfl (by kernel_rfl) (by kernel_rfl) (by kernel_rfl) (by kernel_rfl) (fun _ _ _ h => h) (Or.inl ⟨by rfl, fun w hSw => ?hy8⟩) HS0 ?_
      case hy8 => (try dsimp only at hSw); go_simp
      simp only [Act.put, List.getElem_toArray, List.getElem_cons_zero, List.getElem_cons_succ, List.setIfInBounds_toArray, List.set_cons_zero, List.set_cons_succ]
      refine wpUntil.takeC (i := 9) (v := (.int .i64 0)) [12, 13, 15, 19] rfl (by kernel_rfl) (by kernel_rfl) (by kernel_rfl) (by kernel_rfl) (fun _ _ _ h => h) (Or.inl ⟨by rfl, fun w hSw => ?hy9⟩) HS0 ?_
      case hy9 => (try dsimp only at hSw); go_simp
      simp only [Act.put, List.getElem_toArray, List.getElem_cons_zero, List.getElem_cons_succ, List.setIfInBounds_toArray, List.set_cons_zero, List.set_cons_succ]
      refine wpUntil.takeC (i := 10) (v := (.pointer (some ⟨q, 0, none⟩))) [11, 12, 13, 15, 19] rfl (by kernel_rfl) (by kernel_rfl) (by kernel_rfl) (by kernel_rfl) (fun _ _ _ h => h) (Or.inl ⟨by rfl, fun w hSw => ?hy10⟩) HS0 ?_
      case hy10 => (try dsimp only at hSw); go_simp
      simp only [Act.put, List.getElem_toArray, List.getElem_cons_zero, List.getElem_cons_succ, List.setIfInBounds_toArray, List.set_cons_zero, List.set_cons_succ]
      refine wpUntil.takeC (i := 11) (v := (.pointer (some ⟨q, 0, none⟩))) [12, 13, 15, 19] rfl (by kernel_rfl) (by kernel_rfl) (by kernel_rfl) (by kernel_rfl) (fun _ _ _ h => h) (Or.inl ⟨by rfl, fun w hSw => ?hy11⟩) HS0 ?_
      case hy11 => (try dsimp only at hSw); go_simp
      simp only [Act.put, List.getElem_toArray, List.getElem_cons_zero, List.getElem_cons_succ, List.setIfInBounds_toArray, List.set_cons_zero, List.set_cons_succ]
      refine wpUntil.takeC (i := 12) (v := (.pointer (some ⟨q, 0, none⟩))) [13, 15, 19] rfl (by kernel_rfl) (by kernel_rfl) (by kernel_rfl) (by kernel_rfl) (fun _ _ _ h => h) (Or.inl ⟨by rfl, fun w hSw => ?hy12⟩) HS0 ?_
      case hy12 => (try dsimp only at hSw); go_simp
      simp only [Act.put, List.getElem_toArray, List.getElem_cons_zero, List.getElem_cons_succ, List.setIfInBounds_toArray, List.set_cons_zero, List.set_cons_succ]
      refine wpUntil.takeC (i := 13) (v := (.string (B b0))) [15, 19] rfl (by kernel_rfl) (by kernel_rfl) (by kernel_rfl) (by kernel_rfl) (fun _ _ _ h => h) (Or.inl ⟨by rfl, fun w hSw => ?hy13⟩) HS0 ?_
      case hy13 => (try dsimp only at hSw); go_simp
      simp only [Act.put, List.getElem_toArray, List.getElem_cons_zero, List.getElem_cons_succ, List.setIfInBounds_toArray, List.set_cons_zero, List.set_cons_succ]
      refine wpUntil.takeC (i := 14) (v := (.int .i64 (sa : Nat))) [15, 19] rfl (by kernel_rfl) (by kernel_rfl) (by kernel_rfl) (by kernel_rfl) (fun _ _ _ h => h) (Or.inl ⟨by rfl, fun w hSw => ?hy14⟩) HS0 ?_
      case hy14 => (try dsimp only at hSw); go_simp
      simp only [Act.put, List.getElem_toArray, List.getElem_cons_zero, List.getElem_cons_succ, List.setIfInBounds_toArray, List.set_cons_zero, List.set_cons_succ]
      refine wpUntil.takeC (i := 15) (v := (.string (B (b0.take sa)))) [19] rfl (by kernel_rfl) (by kernel_rfl) (by kernel_rfl) (by kernel_rfl) (fun _ _ _ h => h) (Or.inl ⟨by rfl, fun w hSw => ?hy15⟩) HS0 ?_
      case hy15 => (try dsimp only at hSw); go_simp
      simp only [Act.put, List.getElem_toArray, List.getElem_cons_zero, List.getElem_cons_succ, List.setIfInBounds_toArray, List.set_cons_zero, List.set_cons_succ]
      refine wpUntil.takeC (i := 16) (v := (.pointer (some ⟨q, 0, none⟩))) [17, 18, 19] rfl (by kernel_rfl) (by kernel_rfl) (by kernel_rfl) (by kernel_rfl) (fun _ _ _ h => h) (Or.inl ⟨by rfl, fun w hSw => ?hy16⟩) HS0 ?_
      case hy16 => (try dsimp only at hSw); go_simp
      simp only [Act.put, List.getElem_toArray, List.getElem_cons_zero, List.getElem_cons_succ, List.setIfInBounds_toArray, List.set_cons_zero, List.set_cons_succ]
      refine wpUntil.takeC (i := 17) (v := (.pointer (some ⟨q, 0, none⟩))) [18, 19] rfl (by kernel_rfl) (by kernel_rfl) (by kernel_rfl) (by kernel_rfl) (fun _ _ _ h => h) (Or.inl ⟨by rfl, fun w hSw => ?hy17⟩) HS0 ?_
      case hy17 => (try dsimp only at hSw); go_simp
      simp only [Act.put, List.getElem_toArray, List.getElem_cons_zero, List.getElem_cons_succ, List.setIfInBounds_toArray, List.set_cons_zero, List.set_cons_succ]
      refine wpUntil.takeC (i := 18) (v := (.pointer (some ⟨q, 0, none⟩))) [19] rfl (by kernel_rfl) (by kernel_rfl) (by kernel_rfl) (by kernel_rfl) (fun _ _ _ h => h) (Or.inl ⟨by rfl, fun w hSw => ?hy18⟩) HS0 ?_
      case hy18 => (try dsimp only at hSw); go_simp
      simp only [Act.put, List.getElem_toArray, List.getElem_cons_zero, List.getElem_cons_succ, List.setIfInBounds_toArray, List.set_cons_zero, List.set_cons_succ]
      refine wpUntil.only (i := 19) rfl (by kernel_rfl) (by rfl) ?_
      simp only [Act.put, List.getElem_toArray, List.getElem_cons_zero, List.getElem_cons_succ, List.setIfInBounds_toArray, List.set_cons_zero, List.set_cons_succ]
      go_simp
      refine ⟨by kernel_rfl, ?_⟩
      refine world_any (F := fun W => W.heap[q]? = some (.cells #[.string (B (b0.take sa)), .string (B b1), .int .i64 l0, .int .i64 l1, .int .i64 due, .int .i64 kp, .int .i64 U, .int .i64 M] 222) ∧ W.heap[y]? = some (.cells #[.pointer (some ⟨q, 0, none⟩), .int .i64 0, .int .i64 0] 224) ∧ w.turned W (fun k => k = q)) ⟨((cells_set HW0q.out _).trans (by simp only [List.setIfInBounds_toArray, List.set_cons_succ, List.set_cons_zero])), ((Below.heap_setCell _ _ _ _ hyq).trans HW0y.out), (turned_set (S := fun k => k = q) HW0t.out rfl _).drew⟩ ?_
      rintro V1 ⟨hV1q, hV1y, hV1t⟩
      have HV1q : Hid (V1.heap[q]? = some (.cells #[.string (B (b0.take sa)), .string (B b1), .int .i64 l0, .int .i64 l1, .int .i64 due, .int .i64 kp, .int .i64 U, .int .i64 M] 222)) := hV1q
      have HV1y : Hid (V1.heap[y]? = some (.cells #[.pointer (some ⟨q, 0, none⟩), .int .i64 0, .int .i64 0] 224)) := hV1y
      have HV1t : Hid (w.turned V1 (fun k => k = q)) := hV1t
      clear hV1q hV1y hV1t
      clear q0 q1 q2 q3 q4 q5 q6 q7 qf y0 y1 y2 yf hqw hyw
      obtain ⟨q0, q1, q2, q3, q4, q5, q6, q7, qf⟩ := rd_cells HV1q.out
      obtain ⟨y0, y1, y2, yf⟩ := wal3_cells HV1y.out
      have hqw : q < V1.heap.size := (Array.getElem?_eq_some_iff.1 HV1q.out).1
      have hyw : y < V1.heap.size := (Array.getElem?_eq_some_iff.1 HV1y.out).1
      go_wp2_with fail
      go_region_held3 (fun w' => w'.cell? ⟨y, 2, none⟩ = some (.int .i64 0)) (first | exact y2 | exact cell_other hyq y2) (fail)
      refine world_any (F := fun W => W.heap[q]? = some (.cells #[.string (B (b0.take sa)), .string (B b1), .int .i64 sa, .int .i64 l1, .int .i64 due, .int .i64 kp, .int .i64 U, .int .i64 M] 222) ∧ W.heap[y]? = some (.cells #[.pointer (some ⟨q, 0, none⟩), .int .i64 0, .int .i64 0] 224) ∧ w.turned W (fun k => k = q)) ⟨((cells_set HV1q.out _).trans (by simp only [List.setIfInBounds_toArray, List.set_cons_succ, List.set_cons_zero])), ((Below.heap_setCell _ _ _ _ hyq).trans HV1y.out), (turned_set (S := fun k => k = q) HV1t.out rfl _).drew⟩ ?_
      rintro V2 ⟨hV2q, hV2y, hV2t⟩
      have HV2q : Hid (V2.heap[q]? = some (.cells #[.string (B (b0.take sa)), .string (B b1), .int .i64 sa, .int .i64 l1, .int .i64 due, .int .i64 kp, .int .i64 U, .int .i64 M] 222)) := hV2q
      have HV2y : Hid (V2.heap[y]? = some (.cells #[.pointer (some ⟨q, 0, none⟩), .int .i64 0, .int .i64 0] 224)) := hV2y
      have HV2t : Hid (w.turned V2 (fun k => k = q)) := hV2t
      clear hV2q hV2y hV2t
      clear q0 q1 q2 q3 q4 q5 q6 q7 qf y0 y1 y2 yf hqw hyw
      obtain ⟨q0, q1, q2, q3, q4, q5, q6, q7, qf⟩ := rd_cells HV2q.out
      obtain ⟨y0, y1, y2, yf⟩ := wal3_cells HV2y.out
      have hqw : q < V2.heap.size := (Array.getElem?_eq_some_iff.1 HV2q.out).1
      have hyw : y < V2.heap.size := (Array.getElem?_eq_some_iff.1 HV2y.out).1
      go_wp2_with fail
      refine world_any (F := fun W => W.heap[q]? = some (.cells #[.string (B (b0.take sa)), .string (B b1), .int .i64 sa, .int .i64 l1, .int .i64 due, .int .i64 kp, .int .i64 M1, .int .i64 M1] 222) ∧ W.heap[y]? = some (.cells #[.pointer (some ⟨q, 0, none⟩), .int .i64 M1, .int .i64 0] 224) ∧ w.turned W (fun k => k = q)) ⟨?_, ?_, ?_⟩ ?_
      · refine (Below.heap_setCell _ _ _ _ (fun e => hyq e.symm)).trans ((cells_set (cells_set HV2q.out _) _).trans ?_)
        simp only [List.setIfInBounds_toArray, List.set_cons_succ, List.set_cons_zero]
      · refine (cells_set ((Below.heap_setCell _ _ _ _ hyq).trans ((Below.heap_setCell _ _ _ _ hyq).trans HV2y.out)) _).trans ?_
        simp only [List.setIfInBounds_toArray, List.set_cons_succ, List.set_cons_zero]
      · refine ⟨HV2t.out.os, HV2t.out.tape, HV2t.out.output, by simp only [World.size_setCell]; exact HV2t.out.size, fun k hk hn => ?_⟩
        have hky : k ≠ y := fun e => by have := HYW.out; omega
        exact (Below.heap_setCell _ _ _ _ hky).trans ((Below.heap_setCell _ _ _ _ hn).trans ((Below.heap_setCell _ _ _ _ hn).trans (HV2t.out.block k hk hn)))
      rintro W9 ⟨h9q, h9y, h9t⟩
      go_ret
      refine ⟨y, rfl, HYW.out, ?_, ?_, h9t⟩
      · have hfd : D.found = (0, ra) := by rw [HFD.out]; rw [if_neg (by rintro ⟨e1, e2⟩; rw [hga0] at e1; cases e1), if_neg (by have := HGT.out; omega)]
        refine open_set H.out 0 (b0.take sa) sa (by rw [hfd]) (by rw [hfd]; exact HGS.out.2.2.1) (by rw [List.length_take, Nat.min_eq_left HGS.out.1]) ?_
        obtain ⟨e0, e1, e2, e3, e4⟩ := HEQ.out
        rw [h9q]
        simp only [e0, e1, e2, e3, e4]
        rfl
      · have hfd : D.found = (0, ra) := by rw [HFD.out]; rw [if_neg (by rintro ⟨e1, e2⟩; rw [hga0] at e1; cases e1), if_neg (by have := HGT.out; omega)]
        rw [h9y, hfd]
        rfl
end Go.Proofs.Ytcbbnmodjnnbeaa
