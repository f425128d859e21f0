/- The walk of the store's result: a session's command is done once. -/
import Derived.Test.YtcbbnmodjnnbeaaDone
import Derived.Deep.DeepMust
set_option linter.unusedSimpArgs false
set_option linter.unusedVariables false
namespace Go.Proofs.Ytcbbnmodjnnbeaa
open Go.RowKit

theorem Chg.after {w W w1 : World} {p b : Nat} {D : DataW Value} {s s' : St} (h : StoreAt w p b D s) (hb : Below w.heap.size w W) (hc : Chg W w1 p b D s') :
    Hid (∀ w2, w1.turned w2 (fun x => w.heap.size ≤ x ∧ x < W.heap.size) → Chg w w2 p b D s') ∧ (∀ x o, w.heap.size ≤ x → W.heap[x]? = some o → w1.heap[x]? = some o ∧ x < w1.heap.size) := by
  obtain ⟨D1, h1, h2, h3⟩ := hc
  refine ⟨fun w2 ht => Chg.tail h hb h1 h2 h3 ht, fun x o hx ho => ?_⟩
  have hlt := (Array.getElem?_eq_some_iff.1 ho).1
  exact ⟨(h3.block x hlt fun hq => by have := h.foot_lt hq; omega).trans ho, Nat.lt_of_lt_of_le hlt h3.size⟩
theorem Chg.store {w w1 : World} {p b : Nat} {D : DataW Value} {s' : St} (hc : Chg w w1 p b D s') (i : Nat) (hi : i < 8) : p < w1.heap.size ∧ (∀ o, w1.frozen? ⟨p, o, none⟩ = false) ∧ w1.cell? ⟨p, 3 + i * 4, none⟩ = some (.int .i64 (ssAt s' i).1) ∧ w1.cell? ⟨p, 3 + i * 4 + 1, none⟩ = some (.bool (ssAt s' i).2.ok) ∧ w1.cell? ⟨p, 3 + i * 4 + 2, none⟩ = some (.int .i64 (ssAt s' i).2.rev) ∧ w1.cell? ⟨p, 3 + i * 4 + 3, none⟩ = some (.bool (ssAt s' i).2.stale) := by
  obtain ⟨D1, h1, h2, h3⟩ := hc
  exact ⟨(Array.getElem?_eq_some_iff.1 h1.blk).1, (st_cells h1.blk).2.2.2, st_sess h1.blk i (by rw [h1.good.ss]; exact hi)⟩
theorem Chg.after2 {w W w6 : World} {p b : Nat} {D : DataW Value} {s s' : St} (h : StoreAt w p b D s) (hb : Below w.heap.size w W) (hn : w.heap.size + 2 ≤ W.heap.size) (hc : Chg W w6 p b D s') (i q : Nat) (r : Res) :
    Hid (∀ w2, ((((w6.setCell ⟨p, 3 + i * 4, none⟩ (.int .i64 q)).setCell ⟨p, 3 + i * 4 + 1, none⟩ (.bool r.ok)).setCell ⟨p, 3 + i * 4 + 2, none⟩ (.int .i64 r.rev)).setCell ⟨p, 3 + i * 4 + 3, none⟩ (.bool r.stale)).turned w2 (fun x => w.heap.size ≤ x ∧ x < w.heap.size + 2) → Chg w w2 p b D (s'.setSs i (q, r))) := by
  obtain ⟨D1, h1, h2, h3⟩ := hc
  intro w2 ht
  exact Chg.tail h hb (h1.setSs i q r) h2 ((((h3.set (fun _ => .inl rfl) _).set (fun _ => .inl rfl) _).set (fun _ => .inl rfl) _).set (fun _ => .inl rfl) _) (ht.mono fun _ _ hx => by omega)
theorem res_cells {W : World} {n : Nat} {r : Res} (h : W.heap[n]? = some (.cells #[.bool r.ok, .int .i64 r.rev, .bool r.stale] 72)) : W.cell? ⟨n, 0, none⟩ = some (.bool r.ok) ∧ W.cell? ⟨n, 1, none⟩ = some (.int .i64 r.rev) ∧ W.cell? ⟨n, 2, none⟩ = some (.bool r.stale) ∧ ∀ o, W.frozen? ⟨n, o, none⟩ = false := by
  refine ⟨by simp only [World.cell?, h]; rfl, by simp only [World.cell?, h]; rfl, by simp only [World.cell?, h]; rfl, fun o => by simp [World.frozen?, h]⟩
theorem Hp.drewN {w : World} {i : Nat} {x : Obj} (h : w.heap[i]? = some x) (n : Nat) : (w.drewN n).heap[i]? = some x := h
theorem res_set {W : World} {n : Nat} {r0 r : Res} (h : W.heap[n]? = some (.cells #[.bool r0.ok, .int .i64 r0.rev, .bool r0.stale] 72)) : (((W.setCell ⟨n, 0, none⟩ (.bool r.ok)).setCell ⟨n, 1, none⟩ (.int .i64 r.rev)).setCell ⟨n, 2, none⟩ (.bool r.stale)).heap[n]? = some (.cells #[.bool r.ok, .int .i64 r.rev, .bool r.stale] 72) := by
  rw [setCell_heapB, if_pos rfl, setCell_heapB, if_pos rfl, setCell_heapB, if_pos rfl, h]; rfl
theorem endRes {w6 : World} {p i n : Nat} {v0 v1 v2 v3 : Value} {r : Res} (h : w6.heap[n]? = some (.cells #[.bool false, .int .i64 0, .bool false] 72)) (hp : p ≠ n) :
    (((((((w6.setCell ⟨p, 3 + i * 4, none⟩ v0).setCell ⟨p, 3 + i * 4 + 1, none⟩ v1).setCell ⟨p, 3 + i * 4 + 2, none⟩ v2).setCell ⟨p, 3 + i * 4 + 3, none⟩ v3).setCell ⟨n, 0, none⟩ (.bool r.ok)).setCell ⟨n, 1, none⟩ (.int .i64 r.rev)).setCell ⟨n, 2, none⟩ (.bool r.stale)).heap[n]? = some (.cells #[.bool r.ok, .int .i64 r.rev, .bool r.stale] 72) :=
  res_set (r0 := ⟨false, 0, false⟩) (Hp.set (Hp.set (Hp.set (Hp.set h hp _) hp _) hp _) hp _)
theorem endTurned {W : World} {n m : Nat} {v0 v1 v2 : Value} (hn : m ≤ n ∧ n < m + 2) : W.turned (((W.setCell ⟨n, 0, none⟩ v0).setCell ⟨n, 1, none⟩ v1).setCell ⟨n, 2, none⟩ v2) (fun x => m ≤ x ∧ x < m + 2) :=
  (((World.turned.refl W _).set (fun _ => hn) _).set (fun _ => hn) _).set (fun _ => hn) _
def St.result (s : St) (c : Cmd) : Res × St :=
  if c.ses = 0 then s.done c
  else if c.seq = (ssAt s (c.ses - 1).toNat).1 then ((ssAt s (c.ses - 1).toNat).2, s)
  else if c.seq < (ssAt s (c.ses - 1).toNat).1 then (⟨false, s.rev, true⟩, s)
  else ((s.done c).1, (s.done c).2.setSs (c.ses - 1).toNat (c.seq.toNat, (s.done c).1))
theorem storeResult0 (w : World) (p b : Nat) (D : DataW Value) (s : St) (h : StoreAt w p b D s) (c : Cmd) (hc : CmdBd c) (h0 : c.ses = 0) :
    Calls Try.prog 72 #[.pointer (some ⟨p, 0, none⟩), (.agg #[.int .i64 c.kind, .string c.key, .string c.val, .string c.old, .int .i64 c.rev, .int .i64 c.ses, .int .i64 c.seq])] w fun e w' => e = .returned (s.done c).1.v ∧ Chg w w' p b D (s.done c).2 := by
  have H : Hid (StoreAt w p b D s) := h
  have HC : Hid (CmdBd c) := hc
  have g1 : (c.ses == 0) = true := by simp [h0]
  clear h hc h0
  go_enter Try.func72, Try.ntmps72
  go_wp2_with fail
  refine (storeDone _ p b D s (H.out.grown (by repeat (first | exact Below.refl _ _ | assumption | with_reducible refine below_drewN ?_ _ | refine Gr.ext ?_ _ | refine Gr.alloc ?_ _ | refine Gr.drew ?_ | (refine Gr.set ?_ (by first | (simp; done) | (simp; omega)) _)))) c HC.out).mono ?_
  rintro e w1 ⟨rfl, hg⟩
  obtain ⟨HG, hk⟩ := Chg.after H.out (by repeat (first | exact Below.refl _ _ | assumption | with_reducible refine below_drewN ?_ _ | refine Gr.ext ?_ _ | refine Gr.alloc ?_ _ | refine Gr.drew ?_ | (refine Gr.set ?_ (by first | (simp; done) | (simp; omega)) _))) hg
  obtain ⟨hb1, hs1⟩ := hk (w.heap.size + 1) (.cells #[.bool false, .int .i64 0, .bool false] 72) (by omega) (by repeat (first | with_reducible assumption | (with_reducible refine Hp.new ?_; (first | rfl | (simp [go_sem]; done) | (simp [go_sem]; omega)); done) | with_reducible refine Hp.alloc ?_ _ | with_reducible refine Hp.ext ?_ _ | with_reducible refine Hp.drew ?_ | (with_reducible refine Hp.set ?_ (by simp; omega) _)))
  obtain ⟨r0, r1, r2, rf⟩ := res_cells (r := ⟨false, 0, false⟩) hb1
  have HB1 : Hid (w1.heap[w.heap.size + 1]? = some (.cells #[.bool false, .int .i64 0, .bool false] 72)) := hb1
  clear hk hb1 hg
  obtain ⟨r, hr⟩ : ∃ r, r = (s.done c).1 := ⟨_, rfl⟩
  rw [← hr]
  have HR : Hid (r = (s.done c).1) := hr
  clear hr
  simp only [Res.v]
  go_wp2_with fail
  refine world_any (F := fun W => W.heap[w.heap.size + 1]? = some (.cells #[.bool r.ok, .int .i64 r.rev, .bool r.stale] 72) ∧ w1.turned W (fun x => w.heap.size ≤ x ∧ x < w.heap.size + 2)) ⟨?_, (((World.turned.refl w1 _).set (fun _ => by simp) _).set (fun _ => by simp) _).set (fun _ => by simp) _⟩ ?_
  · rw [setCell_heapB, if_pos rfl, setCell_heapB, if_pos rfl, setCell_heapB, if_pos rfl, HB1.out]; rfl
  rintro W ⟨hW, ht⟩
  obtain ⟨z0, z1, z2, zf⟩ := res_cells hW
  exact bodyPost_ret (v := r.v) (by simp [results, Try.results72, go_sem, Res.v, z0, z1, z2]) rfl ⟨by rw [HR.out], HG.out _ (by simpa using ht)⟩
set_option maxHeartbeats 1000000 in
theorem storeResult1 (w : World) (p b : Nat) (D : DataW Value) (s : St) (h : StoreAt w p b D s) (c : Cmd) (hc : CmdBd c) (i : Nat) (h0 : c.ses = (i : Int) + 1) (hi : i < 8) (q : Nat) (hq : c.seq = q) (hlt : q = (ssAt s i).1) :
    Calls Try.prog 72 #[.pointer (some ⟨p, 0, none⟩), (.agg #[.int .i64 c.kind, .string c.key, .string c.val, .string c.old, .int .i64 c.rev, .int .i64 c.ses, .int .i64 c.seq])] w fun e w' => e = .returned (ssAt s i).2.v ∧ Below w.heap.size w w' := by
  obtain ⟨c0, c1, c2, cf⟩ := st_cells h.blk
  obtain ⟨s0, s1, s2, s3⟩ := st_sess h.blk i (by rw [h.good.ss]; exact hi)
  have hp : p < w.heap.size := (Array.getElem?_eq_some_iff.1 h.blk).1
  generalize ssAt s i = x at *
  have g1 : ((i : Int) + 1 == 0) = false := by rw [beq_eq_false_iff_ne]; omega
  have hi8 : (i : Int) < 8 := by omega
  subst hlt
  rw [h0, hq]
  clear h h0 hq hc
  go_enter Try.func72, Try.ntmps72
  go_wp2_with fail
  go_wp2
  go_quiet (fail)
  go_wp2
  go_quiet (fail)
  go_wp2
  refine world_any (F := fun W => W.heap[w.heap.size + 1]? = some (.cells #[.bool x.2.ok, .int .i64 x.2.rev, .bool x.2.stale] 72) ∧ Below w.heap.size w W) ⟨?_, (by repeat (first | exact Below.refl _ _ | assumption | with_reducible refine below_drewN ?_ _ | refine Gr.ext ?_ _ | refine Gr.alloc ?_ _ | refine Gr.drew ?_ | (refine Gr.set ?_ (by first | (simp; done) | (simp; omega)) _)))⟩ ?_
  · exact res_set (r0 := ⟨false, 0, false⟩) (by repeat (first | with_reducible assumption | (with_reducible refine Hp.new ?_; (first | rfl | (simp [go_sem]; done) | (simp [go_sem]; omega)); done) | with_reducible refine Hp.alloc ?_ _ | with_reducible refine Hp.ext ?_ _ | with_reducible refine Hp.drew ?_ | with_reducible refine Hp.drewN ?_ _ | (with_reducible refine Hp.set ?_ (by simp; omega) _)))
  rintro W ⟨hW, hB⟩
  obtain ⟨z0, z1, z2, zf⟩ := res_cells hW
  exact bodyPost_ret (v := x.2.v) (by simp [results, Try.results72, go_sem, Res.v, z0, z1, z2]) rfl ⟨rfl, hB⟩
set_option maxHeartbeats 1000000 in
theorem storeResult2 (w : World) (p b : Nat) (D : DataW Value) (s : St) (h : StoreAt w p b D s) (c : Cmd) (i : Nat) (h0 : c.ses = (i : Int) + 1) (hi : i < 8) (hlt : c.seq < (ssAt s i).1) :
    Calls Try.prog 72 #[.pointer (some ⟨p, 0, none⟩), (.agg #[.int .i64 c.kind, .string c.key, .string c.val, .string c.old, .int .i64 c.rev, .int .i64 c.ses, .int .i64 c.seq])] w fun e w' => e = .returned (Res.v ⟨false, s.rev, true⟩) ∧ Below w.heap.size w w' := by
  obtain ⟨c0, c1, c2, cf⟩ := st_cells h.blk
  obtain ⟨s0, s1, s2, s3⟩ := st_sess h.blk i (by rw [h.good.ss]; exact hi)
  have hp : p < w.heap.size := (Array.getElem?_eq_some_iff.1 h.blk).1
  generalize ssAt s i = x at *
  have g1 : ((i : Int) + 1 == 0) = false := by rw [beq_eq_false_iff_ne]; omega
  have g2 : (c.seq == (x.1 : Int)) = false := by rw [beq_eq_false_iff_ne]; omega
  have hi8 : (i : Int) < 8 := by omega
  rw [h0]
  clear h h0
  go_enter Try.func72, Try.ntmps72
  go_wp2_with fail
  go_wp2
  go_quiet (fail)
  go_wp2
  go_quiet (fail)
  go_wp2
  go_quiet (fail)
  go_wp2
  refine world_any (F := fun W => W.heap[w.heap.size + 1]? = some (.cells #[.bool false, .int .i64 s.rev, .bool true] 72) ∧ Below w.heap.size w W) ⟨?_, (by repeat (first | exact Below.refl _ _ | assumption | with_reducible refine below_drewN ?_ _ | refine Gr.ext ?_ _ | refine Gr.alloc ?_ _ | refine Gr.drew ?_ | (refine Gr.set ?_ (by first | (simp; done) | (simp; omega)) _)))⟩ ?_
  · exact res_set (r0 := ⟨false, 0, false⟩) (r := ⟨false, s.rev, true⟩) (by repeat (first | with_reducible assumption | (with_reducible refine Hp.new ?_; (first | rfl | (simp [go_sem]; done) | (simp [go_sem]; omega)); done) | with_reducible refine Hp.alloc ?_ _ | with_reducible refine Hp.ext ?_ _ | with_reducible refine Hp.drew ?_ | with_reducible refine Hp.drewN ?_ _ | (with_reducible refine Hp.set ?_ (by simp; omega) _)))
  rintro W ⟨hW, hB⟩
  obtain ⟨z0, z1, z2, zf⟩ := res_cells (r := ⟨false, s.rev, true⟩) hW
  exact bodyPost_ret (v := Res.v ⟨false, s.rev, true⟩) (by simp [results, Try.results72, go_sem, Res.v, z0, z1, z2]) rfl ⟨rfl, hB⟩
set_option maxHeartbeats 4000000 in
theorem storeResult3 (w : World) (p b : Nat) (D : DataW Value) (s : St) (h : StoreAt w p b D s) (c : Cmd) (hc : CmdBd c) (i q : Nat) (h0 : c.ses = (i : Int) + 1) (hi : i < 8) (hq : c.seq = q) (hlt : (ssAt s i).1 < q) :
    Calls Try.prog 72 #[.pointer (some ⟨p, 0, none⟩), (.agg #[.int .i64 c.kind, .string c.key, .string c.val, .string c.old, .int .i64 c.rev, .int .i64 c.ses, .int .i64 c.seq])] w fun e w' => e = .returned (s.done c).1.v ∧ Chg w w' p b D ((s.done c).2.setSs i (q, (s.done c).1)) := by
  obtain ⟨c0, c1, c2, cf⟩ := st_cells h.blk
  obtain ⟨s0, s1, s2, s3⟩ := st_sess h.blk i (by rw [h.good.ss]; exact hi)
  have hp : p < w.heap.size := (Array.getElem?_eq_some_iff.1 h.blk).1
  obtain ⟨kind, key, val, old, rev, ses, seq⟩ := c
  simp only at h0 hq
  subst h0 hq
  generalize hcc : (⟨kind, key, val, old, rev, (i : Int) + 1, (q : Int)⟩ : Cmd) = c at *
  have HCC : Hid (⟨kind, key, val, old, rev, (i : Int) + 1, (q : Int)⟩ = c) := hcc
  generalize ssAt s i = x at *
  have g1 : ((i : Int) + 1 == 0) = false := by rw [beq_eq_false_iff_ne]; omega
  have g2 : ((q : Int) == (x.1 : Int)) = false := by rw [beq_eq_false_iff_ne]; omega
  have g3 : decide ((q : Int) < (x.1 : Int)) = false := by rw [decide_eq_false_iff_not]; omega
  have g4 : ¬ q < x.1 := by omega
  have hi8 : (i : Int) < 8 := by omega
  have H : Hid (StoreAt w p b D s) := h
  have HC : Hid (CmdBd c) := hc
  obtain ⟨r, hr⟩ : ∃ r, r = (s.done c).1 := ⟨_, rfl⟩
  have hdone : ∀ W, Below w.heap.size w W → Calls Try.prog 120 #[.pointer (some ⟨p, 0, none⟩), (.agg #[.int .i64 kind, .string key, .string val, .string old, .int .i64 rev, .int .i64 ((i : Int) + 1), .int .i64 q])] W fun e w' => e = .returned (.agg #[.bool r.ok, .int .i64 r.rev, .bool r.stale]) ∧ Chg W w' p b D (s.done c).2 := by
    intro W hW
    have := storeDone W p b D s (h.grown hW) c hc
    rw [← hr] at this
    rw [← hcc] at this ⊢
    exact this
  have HD : Hid (∀ W, Below w.heap.size w W → Calls Try.prog 120 #[.pointer (some ⟨p, 0, none⟩), (.agg #[.int .i64 kind, .string key, .string val, .string old, .int .i64 rev, .int .i64 ((i : Int) + 1), .int .i64 q])] W fun e w' => e = .returned (.agg #[.bool r.ok, .int .i64 r.rev, .bool r.stale]) ∧ Chg W w' p b D (s.done c).2) := hdone
  rw [← hr]
  have HR : Hid (r = (s.done c).1) := hr
  clear h hc hlt hdone hr
  subst hcc
  go_enter Try.func72, Try.ntmps72
  go_wp2_with fail
  go_wp2
  go_quiet (fail)
  go_wp2
  go_quiet (fail)
  go_wp2
  go_quiet (fail)
  go_wp2
  clear s0 s1 s2 s3 c0 c1 c2 g1 g2 g3 g4
  go_region_with (go_at_call 120; go_must (refine Calls.mono (HD.out _ (by repeat (first | exact Below.refl _ _ | assumption | with_reducible refine below_drewN ?_ _ | refine Gr.ext ?_ _ | refine Gr.alloc ?_ _ | refine Gr.drew ?_ | (refine Gr.set ?_ (by first | (simp; done) | (simp; omega)) _)))) ?_; rintro e w6 ⟨rfl, hg⟩; obtain ⟨HG, hk⟩ := Chg.after H.out (by repeat (first | exact Below.refl _ _ | assumption | with_reducible refine below_drewN ?_ _ | refine Gr.ext ?_ _ | refine Gr.alloc ?_ _ | refine Gr.drew ?_ | (refine Gr.set ?_ (by first | (simp; done) | (simp; omega)) _))) hg; have HG2 := Chg.after2 H.out (by repeat (first | exact Below.refl _ _ | assumption | with_reducible refine below_drewN ?_ _ | refine Gr.ext ?_ _ | refine Gr.alloc ?_ _ | refine Gr.drew ?_ | (refine Gr.set ?_ (by first | (simp; done) | (simp; omega)) _))) (by simp [go_sem]) hg i q r; obtain ⟨hp6, hpf, s0, s1, s2, s3⟩ := hg.store i hi; obtain ⟨hn0, hm0⟩ := hk w.heap.size (.cells #[.int .i64 kind, .string key, .string val, .string old, .int .i64 rev, .int .i64 ((i : Int) + 1), .int .i64 q] 23) (Nat.le_refl _) (by repeat (first | with_reducible assumption | (with_reducible refine Hp.new ?_; (first | rfl | (simp [go_sem]; done) | (simp [go_sem]; omega)); done) | with_reducible refine Hp.alloc ?_ _ | with_reducible refine Hp.ext ?_ _ | with_reducible refine Hp.drew ?_ | with_reducible refine Hp.drewN ?_ _ | (with_reducible refine Hp.set ?_ (by simp; omega) _))); obtain ⟨hn1, hm1⟩ := hk (w.heap.size + 1) (.cells #[.bool false, .int .i64 0, .bool false] 72) (by omega) (by repeat (first | with_reducible assumption | (with_reducible refine Hp.new ?_; (first | rfl | (simp [go_sem]; done) | (simp [go_sem]; omega)); done) | with_reducible refine Hp.alloc ?_ _ | with_reducible refine Hp.ext ?_ _ | with_reducible refine Hp.drew ?_ | with_reducible refine Hp.drewN ?_ _ | (with_reducible refine Hp.set ?_ (by simp; omega) _))); have k6 : w6.cell? ⟨w.heap.size, 6, none⟩ = some (.int .i64 q) := (by simp only [World.cell?, hn0]; rfl); obtain ⟨r0, r1, r2, rf⟩ := res_cells (r := ⟨false, 0, false⟩) hn1; have HN1 : Hid (w6.heap[w.heap.size + 1]? = some (.cells #[.bool false, .int .i64 0, .bool false] 72)) := hn1; clear hk hg hn0 hn1 HG))
  all_goals
    go_wp2_with fail
    refine world_any (F := fun W => W.heap[w.heap.size + 1]? = some (.cells #[.bool r.ok, .int .i64 r.rev, .bool r.stale] 72) ∧ ((((w6.setCell ⟨p, 3 + i * 4, none⟩ (.int .i64 q)).setCell ⟨p, 3 + i * 4 + 1, none⟩ (.bool r.ok)).setCell ⟨p, 3 + i * 4 + 2, none⟩ (.int .i64 r.rev)).setCell ⟨p, 3 + i * 4 + 3, none⟩ (.bool r.stale)).turned W (fun x => w.heap.size ≤ x ∧ x < w.heap.size + 2)) ⟨?_, ?_⟩ ?_
    · with_reducible exact endRes HN1.out (by omega)
    · with_reducible exact endTurned (by omega)
    rintro W ⟨hW, ht⟩
    obtain ⟨z0, z1, z2, zf⟩ := res_cells hW
    exact bodyPost_ret (v := r.v) (by simp [results, Try.results72, go_sem, Res.v, z0, z1, z2]) rfl ⟨rfl, HG2.out _ ht⟩
/-- The store's result: a command of a session that comes again is not done again. -/
theorem storeResult (w : World) (p b : Nat) (D : DataW Value) (s : St) (h : StoreAt w p b D s) (c : Cmd) (hc : CmdBd c) :
    Calls Try.prog 72 #[.pointer (some ⟨p, 0, none⟩), (.agg #[.int .i64 c.kind, .string c.key, .string c.val, .string c.old, .int .i64 c.rev, .int .i64 c.ses, .int .i64 c.seq])] w fun e w' => e = .returned (s.result c).1.v ∧ Chg w w' p b D (s.result c).2 := by
  unfold St.result
  by_cases h0 : c.ses = 0
  · rw [if_pos h0]; exact storeResult0 w p b D s h c hc h0
  · rw [if_neg h0]
    have hs0 := hc.s0; have hs8 := hc.s8; have hq0 := hc.q0
    obtain ⟨i, hi⟩ : ∃ i : Nat, c.ses = (i : Int) + 1 := ⟨(c.ses - 1).toNat, by omega⟩
    have hi8 : i < 8 := by omega
    have e : (c.ses - 1).toNat = i := by omega
    obtain ⟨q, hq⟩ : ∃ q : Nat, c.seq = q := ⟨c.seq.toNat, by omega⟩
    rw [e]
    by_cases h1 : c.seq = (ssAt s i).1
    · rw [if_pos h1]
      exact (storeResult1 w p b D s h c hc i hi hi8 q hq (by omega)).mono fun e w' ⟨h2, h3⟩ => ⟨h2, Chg.refl' h h3⟩
    · rw [if_neg h1]
      by_cases h2 : c.seq < (ssAt s i).1
      · rw [if_pos h2]
        exact (storeResult2 w p b D s h c i hi hi8 h2).mono fun e w' ⟨h2, h3⟩ => ⟨h2, Chg.refl' h h3⟩
      · rw [if_neg h2, show c.seq.toNat = q by omega]
        exact storeResult3 w p b D s h c hc i q hi hi8 hq (by omega)
end Go.Proofs.Ytcbbnmodjnnbeaa
