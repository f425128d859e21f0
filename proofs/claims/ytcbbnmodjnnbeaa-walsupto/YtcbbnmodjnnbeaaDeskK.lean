/- The law on journals: deeds at a journal. -/
import Derived.Test.YtcbbnmodjnnbeaaDeskB
set_option linter.unusedSimpArgs false
set_option linter.unusedVariables false
namespace Go.Proofs.Ytcbbnmodjnnbeaa
open Go.RowKit

theorem wWrite_calm {D : Dk} (h : D.Calm) (k : Nat) (S : WSt) (rs : List Rec) : (wWrite D k S rs).2.1.2.Calm := by
  unfold wWrite
  split
  · split
    · exact h
    · split <;> exact h.write _ _
  · exact h
theorem wWrite_le {D : Dk} {m b : Nat} (h : D.Le m) (k : Nat) (S : WSt) {rs : List Rec} (hl : (jrnL rs).length ≤ b) : (wWrite D k S rs).2.1.2.Le (m + b) := by
  unfold wWrite
  split
  · split
    · exact h.up (by omega)
    · split <;> exact (h.write _ _).up (by omega)
  · exact h.up (by omega)
theorem wRewrite_calm {D : Dk} (h : D.Calm) (k : Nat) (S N : WSt) : (wRewrite D k S N).2.1.2.Calm := by
  unfold wRewrite
  split
  · split <;> exact h.rewrite _ _
  · exact h
theorem wRewrite_le {D : Dk} {m b : Nat} (h : D.Le m) (k : Nat) (S : WSt) {N : WSt} (hl : ∀ g, (jrnL ({ N with gen := g } : WSt).recs).length ≤ b) : (wRewrite D k S N).2.1.2.Le (m + b) := by
  have := hl (S.gen + 1)
  unfold wRewrite
  split
  · split <;> exact (h.rewrite _ _).up (by omega)
  · exact h.up (by omega)
theorem lWrite_calm {D : Dk} (h : D.Calm) (n : Nat) (L : Lv) (i : Nat) (rs : List Rec) : (lWrite n D L i rs).2.1.Calm := by
  unfold lWrite
  split
  · exact h
  · split
    · exact wWrite_calm h _ _ _
    · exact h
theorem lWrite_le {D : Dk} {m b : Nat} (h : D.Le m) (n : Nat) (L : Lv) (i : Nat) {rs : List Rec} (hl : (jrnL rs).length ≤ b) : (lWrite n D L i rs).2.1.Le (m + b) := by
  unfold lWrite
  split
  · exact h.up (by omega)
  · split
    · exact wWrite_le h _ _ hl
    · exact h.up (by omega)
theorem lRewrite_calm {D : Dk} (h : D.Calm) (n : Nat) (L : Lv) (i : Nat) (N : WSt) : (lRewrite n D L i N).2.1.Calm := by
  unfold lRewrite
  split
  · exact h
  · split
    · exact wRewrite_calm h _ _ _
    · exact h
theorem lRewrite_le {D : Dk} {m b : Nat} (h : D.Le m) (n : Nat) (L : Lv) (i : Nat) {N : WSt} (hl : ∀ g, (jrnL ({ N with gen := g } : WSt).recs).length ≤ b) : (lRewrite n D L i N).2.1.Le (m + b) := by
  unfold lRewrite
  split
  · exact h.up (by omega)
  · split
    · exact wRewrite_le h _ _ hl
    · exact h.up (by omega)
theorem lentR_prefix {w : World} {g N : Nat} {l r : List Rec} (h : w.ownL 25 14 (.slice (some ⟨g, 0, none⟩) (N + 8) (N + 8)) ((l ++ r).map Rec.cells)) (hN : N = l.length) : w.reads 14 (.slice (some ⟨g, 0, none⟩) l.length (N + 8)) (l.map Rec.cells) := by
  have h1 := (ownL_upto h (m := l.length) (by omega)).2.reads
  rw [List.map_append, List.take_left' (by rw [List.length_map])] at h1
  exact h1
theorem lentE_prefix {w : World} {g N : Nat} {l r : List Ety} (h : w.ownL 135 8 (.slice (some ⟨g, 0, none⟩) (N + 8) (N + 8)) ((l ++ r).map Ety.cells)) (hN : N = l.length) : w.reads 8 (.slice (some ⟨g, 0, none⟩) l.length (N + 8)) (l.map Ety.cells) := by
  have h1 := (ownL_upto h (m := l.length) (by omega)).2.reads
  rw [List.map_append, List.take_left' (by rw [List.length_map])] at h1
  exact h1
set_option maxRecDepth 100000 in
set_option maxHeartbeats 8000000 in
theorem jnWrite (w : World) (d : DD) (m b : Nat) (h : DAt w d) (hr : Rdy d m) (hm : m + b ≤ 100000000) (x : DeedV) (hx : x.ok d.w0 b) (hk : x.kind = 2) (i j y : Nat) (hj : d.js[i]? = some j) (hy : d.ys[i]? = some y) (hF : ∀ z, w.heap.size ≤ z → d.col z = 6) (hn : d.n ≤ 100000000) :
    Calls Try.prog 89 #[.pointer (some ⟨d.dp, 0, none⟩), .agg x.cells.toArray, .pointer (some ⟨j, 0, none⟩), .pointer (some ⟨y, 0, none⟩)] w (DeedOut d.w0 d.dp (d.n + 4) (m + b)) := by
  have H : Hid (DAt w d) := h
  have HR : Hid (Rdy d m) := hr
  have HX : Hid (x.ok d.w0 b) := hx
  have HM : Hid (m + b ≤ 100000000) := hm
  have HJ : Hid (d.js[i]? = some j) := hj
  have HY : Hid (d.ys[i]? = some y) := hy
  have HF : Hid (∀ z, w.heap.size ≤ z → d.col z = 6) := hF
  have HN : Hid (d.n ≤ 100000000) := hn
  clear h hr hx hm hj hy hF hn
  unfold DeedV.cells
  rw [hk]
  clear hk
  go_enter Try.func89, Try.ntmps89
  go_wp2_with fail
  obtain ⟨W, hWeq⟩ : ∃ W, W = w.alloc (.cells #[.int .i64 2, .int .i64 x.k, .int .i64 x.keep, .slice x.ra x.rs.length x.rc, .int .i64 x.S.gen, .int .i64 x.S.term, .int .i64 x.S.vote, .int .i64 x.S.base, .int .i64 x.S.bterm, .string x.S.data, .slice x.la x.S.log.length x.lc] 92) := ⟨_, rfl⟩
  rw [← hWeq]
  have hbW : Below w.heap.size w W := by rw [hWeq]; exact (by repeat (first | exact Below.refl _ _ | assumption | with_reducible refine below_drewN ?_ _ | refine Gr.ext ?_ _ | refine Gr.alloc ?_ _ | refine Gr.drew ?_ | (refine Gr.set ?_ (by first | (simp; done) | (simp; omega)) _)))
  have hWa : W.heap[w.heap.size]? = some (.cells #[.int .i64 2, .int .i64 x.k, .int .i64 x.keep, .slice x.ra x.rs.length x.rc, .int .i64 x.S.gen, .int .i64 x.S.term, .int .i64 x.S.vote, .int .i64 x.S.base, .int .i64 x.S.bterm, .string x.S.data, .slice x.la x.S.log.length x.lc] 92) := by rw [hWeq]; exact Hp.new rfl
  clear hWeq
  have HBW : Hid (Below w.heap.size w W) := hbW
  have HWA : Hid (W.heap[w.heap.size]? = some (.cells #[.int .i64 2, .int .i64 x.k, .int .i64 x.keep, .slice x.ra x.rs.length x.rc, .int .i64 x.S.gen, .int .i64 x.S.term, .int .i64 x.S.vote, .int .i64 x.S.base, .int .i64 x.S.bterm, .string x.S.data, .slice x.la x.S.log.length x.lc] 92)) := hWa
  have HW : Hid (DAt W d) := H.out.grown hbW
  have hal : w.heap.size < W.heap.size := (Array.getElem?_eq_some_iff.1 hWa).1
  have HNX : Hid (∀ z, w.heap.size ≤ z → ¬ d.FX z) := fun z hz e => by have a := HF.out z hz; have c := H.out.c3 z e; omega
  have HNY : Hid (∀ z, w.heap.size ≤ z → ¬ footY d.q d.ys z) := fun z hz e => by have a := HF.out z hz; have c := H.out.c4 z e; omega
  have HRD : Hid (∀ w', Below d.w0.heap.size d.w0 w' → x.rs ≠ [] → w'.reads 14 (.slice x.ra x.rs.length x.rc) (x.rs.map Rec.cells)) := fun w' hb hne => (HX.out.rd hne).keep fun k hk => hb.block k (reads_lt (HX.out.rd hne) hk)
  have HLD : Hid (∀ w', Below d.w0.heap.size d.w0 w' → x.S.log ≠ [] → w'.reads 8 (.slice x.la x.S.log.length x.lc) (x.S.log.map Ety.cells)) := fun w' hb hne => (HX.out.ld hne).keep fun k hk => hb.block k (reads_lt (HX.out.ld hne) hk)
  clear hbW hWa
  obtain ⟨n, hn⟩ : ∃ n, n = x.rs.length := ⟨_, rfl⟩
  have HNL : Hid (n = x.rs.length) := hn
  have hn9 : n ≤ 1048576 := by rw [hn]; exact HX.out.rl
  obtain ⟨ll, hll⟩ : ∃ l, l = x.rs ++ List.replicate 8 (mkRx (-77)) := ⟨_, rfl⟩
  have HLL : Hid (ll = x.rs ++ List.replicate 8 (mkRx (-77))) := hll
  have HLN : Hid (ll.length = n + 8) := by show _ = _; rw [hll, hn]; simp
  have HL1 : Hid (∀ w', Below d.w0.heap.size d.w0 w' → Calls Try.prog 130 #[.slice x.ra n x.rc] w' fun e w'' => ∃ g, e = .returned (.slice (some ⟨g, 0, none⟩) (n + 8) (n + 8)) ∧ w'.heap.size ≤ g ∧ w''.ownL 25 14 (.slice (some ⟨g, 0, none⟩) (n + 8) (n + 8)) (ll.map Rec.cells) ∧ Below w'.heap.size w' w'') := by
    intro w' hb
    rw [hn, hll]
    exact lawLentR w' x.ra x.rc x.rs (HRD.out w' hb) HX.out.rl
  obtain ⟨r, hr⟩ : ∃ r, r = lWrite d.js.length d.Dx d.Lx i x.rs := ⟨_, rfl⟩
  have HRR : Hid (r = lWrite d.js.length d.Dx d.Lx i x.rs) := hr
  rw [← hn]
  rw [← hn] at HWA
  clear hn hll hr
  refine (HL1.out W HW.out.below).mono ?_
  rintro e w1 ⟨g, rfl, hg, ho1, hb1⟩
  have HD1 : Hid (DAt w1 d) := HW.out.grown hb1
  have HO1 : Hid (w1.ownL 25 14 (.slice (some ⟨g, 0, none⟩) (n + 8) (n + 8)) (ll.map Rec.cells)) := ho1
  have HG : Hid (w.heap.size ≤ g ∧ g < w1.heap.size) := ⟨by omega, ho1.lt rfl⟩
  have HA1 : Hid (w1.heap[w.heap.size]? = some (.cells #[.int .i64 2, .int .i64 x.k, .int .i64 x.keep, .slice x.ra n x.rc, .int .i64 x.S.gen, .int .i64 x.S.term, .int .i64 x.S.vote, .int .i64 x.S.base, .int .i64 x.S.bterm, .string x.S.data, .slice x.la x.S.log.length x.lc] 92)) := (hb1.block _ hal).trans HWA.out
  have hal1 : w.heap.size < w1.heap.size := by have := hb1.size; omega
  have HC1 : Hid (Calls Try.prog 41 #[.pointer (some ⟨j, 0, none⟩), .slice (some ⟨g, 0, none⟩) n (n + 8)] w1 fun e w' => e = .returned (.int .i64 r.1) ∧ XOut w1 w' d.p d.js d.FX r.2.1 r.2.2) := by
    rw [HRR.out, HNL.out]
    have hp := lentR_prefix (l := x.rs) (r := List.replicate 8 (mkRx (-77))) (by rw [← HLL.out]; exact HO1.out) HNL.out
    rw [HNL.out] at hp
    exact xWrite w1 d.p d.js d.FX d.Dx d.Lx HD1.out.px i j HJ.out (some ⟨g, 0, none⟩) (x.rs.length + 8) x.rs hp (by omega) (by unfold maxLen; have := HX.out.rl; omega) (fun z hz => by have hz : g = z := Option.some.inj hz; exact HNX.out z (by have := HG.out.1; omega)) (HD1.out.live HR.out) m HR.out.le (by have := HM.out; omega) (by have := HX.out.rl; omega) (by have := HX.out.rj; have := HM.out; omega)
  obtain ⟨a0, a1, a2, a3, a4, a5, a6, a7, a8, a9, a10, af⟩ := deed_cells HA1.out
  clear hg ho1 hb1
  go_wp2_with fail
  refine HC1.out.mono ?_
  rintro e w2 ⟨rfl, ho2⟩
  obtain ⟨F2, hd2⟩ := HD1.out.x' ho2
  have HD2 : Hid (DAt w2 { d with js := d.js, FX := F2, Dx := r.2.1, Lx := r.2.2, col := colUp d.col w1.heap.size 3 }) := hd2
  have HA2 : Hid (w2.heap[w.heap.size]? = some (.cells #[.int .i64 2, .int .i64 x.k, .int .i64 x.keep, .slice x.ra n x.rc, .int .i64 x.S.gen, .int .i64 x.S.term, .int .i64 x.S.vote, .int .i64 x.S.base, .int .i64 x.S.bterm, .string x.S.data, .slice x.la x.S.log.length x.lc] 92)) := (ho2.block hal1 (HNX.out _ (Nat.le_refl _))).trans HA1.out
  have HO2 : Hid (w2.ownL 25 14 (.slice (some ⟨g, 0, none⟩) (n + 8) (n + 8)) (ll.map Rec.cells)) := HO1.out.keep fun z hz => ho2.block (HO1.out.lt hz) (HNX.out z (by have hz : g = z := Option.some.inj hz; have := HG.out.1; omega))
  have hs2 : w1.heap.size ≤ w2.heap.size := ho2.size
  have HC2 : Hid (Calls Try.prog 131 #[.pointer (some ⟨y, 0, none⟩), .slice x.ra n x.rc] w2 fun e w' => e = .returned (.int .i64 r.1) ∧ YOut w2 w' d.q d.ys r.2.1 r.2.2) := by
    have e3 := HR.out.len
    have hle := HR.out.le
    have hpy := hd2.py
    simp only at hpy
    rw [HR.out.D, HR.out.L] at hpy
    rw [HRR.out, HNL.out, ← e3]
    exact yWrite w2 d.q d.ys d.Dx d.Lx hpy i y HY.out x.ra x.rc x.rs (HRD.out w2 hd2.below) m hle (by have := HM.out; omega) (by have := HX.out.rl; omega) (by have := HX.out.rj; have := HM.out; omega)
  clear a0 a1 a2 a3 a4 a5 a6 a7 a8 a9 a10 af ho2 HC1 hd2
  obtain ⟨a0, a1, a2, a3, a4, a5, a6, a7, a8, a9, a10, af⟩ := deed_cells HA2.out
  have hal2 : w.heap.size < w2.heap.size := by omega
  go_wp2_with fail
  refine HC2.out.mono ?_
  rintro e w3 ⟨rfl, ho3⟩
  have hd3 := HD2.out.y' ho3.1 (fun z hz => .inl hz) ho3.2
  have HD3 : Hid (DAt w3 { d with js := d.js, ys := d.ys, FX := F2, Dx := r.2.1, Dy := r.2.1, Lx := r.2.2, Ly := r.2.2, col := colUp (colUp d.col w1.heap.size 3) w2.heap.size 4 }) := hd3
  have HA3 : Hid (w3.heap[w.heap.size]? = some (.cells #[.int .i64 2, .int .i64 x.k, .int .i64 x.keep, .slice x.ra n x.rc, .int .i64 x.S.gen, .int .i64 x.S.term, .int .i64 x.S.vote, .int .i64 x.S.base, .int .i64 x.S.bterm, .string x.S.data, .slice x.la x.S.log.length x.lc] 92)) := (ho3.2.block _ hal2 (HNY.out _ (Nat.le_refl _))).trans HA2.out
  have HO3 : Hid (w3.ownL 25 14 (.slice (some ⟨g, 0, none⟩) (n + 8) (n + 8)) (ll.map Rec.cells)) := HO2.out.keep fun z hz => ho3.2.block z (HO2.out.lt hz) (HNY.out z (by have hz : g = z := Option.some.inj hz; have := HG.out.1; omega))
  have hs3 : w2.heap.size ≤ w3.heap.size := ho3.2.size
  have HCOL : Hid (colUp (colUp d.col w1.heap.size 3) w2.heap.size 4 g = 6) := by
    show _ = _
    rw [colUp_lt (by have := HG.out.2; omega), colUp_lt HG.out.2, HF.out g HG.out.1]
  clear a0 a1 a2 a3 a4 a5 a6 a7 a8 a9 a10 af ho3 HC2 hd3
  obtain ⟨a0, a1, a2, a3, a4, a5, a6, a7, a8, a9, a10, af⟩ := deed_cells HA3.out
  have hal3 : w.heap.size < w3.heap.size := by omega
  have HB3 : Hid (Below d.w0.heap.size d.w0 w3) := HD3.out.below
  go_wp2_with fail
  refine (HL1.out w3 HB3.out).mono ?_
  rintro e w4 ⟨g4, rfl, hg4, ho4, hb4⟩
  have HD4 : Hid (DAt w4 { d with js := d.js, ys := d.ys, FX := F2, Dx := r.2.1, Dy := r.2.1, Lx := r.2.2, Ly := r.2.2, col := colUp (colUp d.col w1.heap.size 3) w2.heap.size 4 }) := HD3.out.grown hb4
  have HO4 : Hid (w4.ownL 25 14 (.slice (some ⟨g, 0, none⟩) (n + 8) (n + 8)) (ll.map Rec.cells)) := HO3.out.keep fun z hz => hb4.block z (HO3.out.lt hz)
  have HSM : Hid (Calls Try.prog 20 #[.slice (some ⟨g, 0, none⟩) (n + 8) (n + 8), .slice (some ⟨g4, 0, none⟩) (n + 8) (n + 8)] w4 fun e w' => e = .returned (.bool true) ∧ ∃ k, w' = w4.drewN k) := by
    have h := sameRecords_same (some ⟨g, 0, none⟩) (some ⟨g4, 0, none⟩) (n + 8) (n + 8) ll w4 (by rw [HLN.out]; omega) (by rw [HLN.out]; exact HO4.out.reads) (by rw [HLN.out]; exact ho4.reads)
    rw [HLN.out] at h
    exact h
  clear a0 a1 a2 a3 a4 a5 a6 a7 a8 a9 a10 af hg4 ho4 hb4 HL1 HB3
  go_wp2_with fail
  refine HSM.out.mono ?_
  rintro e w5 ⟨rfl, k5, rfl⟩
  have HO5 : Hid ((w4.drewN k5).ownL 25 14 (.slice (some ⟨g, 0, none⟩) (n + 8) (n + 8)) (ll.map Rec.cells)) := HO4.out.keep fun z hz => (below_drewN (Below.refl w4.heap.size w4) k5).block z (HO4.out.lt hz)
  have HD5 : Hid (DAt (w4.drewN k5) { d with js := d.js, ys := d.ys, FX := F2, Dx := r.2.1, Dy := r.2.1, Lx := r.2.2, Ly := r.2.2, col := colUp (colUp d.col w1.heap.size 3) w2.heap.size 4 }) := HD4.out.grown (below_drewN (Below.refl w4.heap.size w4) k5)
  have HSP : Hid (Calls Try.prog 132 #[.slice (some ⟨g, 0, none⟩) (n + 8) (n + 8)] (w4.drewN k5) fun e w' => e = .returned (.tuple #[]) ∧ (w4.drewN k5).turned w' (fun z => z = g)) := lawSpoilR (w4.drewN k5) g (n + 8) (ll.map Rec.cells) (by rw [List.length_map]; exact HLN.out) HO5.out (by omega)
  clear HSM
  go_wp2_with fail
  refine HSP.out.mono ?_
  rintro e w6 ⟨rfl, ht6⟩
  have HD6 : Hid (DAt w6 { d with js := d.js, ys := d.ys, FX := F2, Dx := r.2.1, Dy := r.2.1, Lx := r.2.2, Ly := r.2.2, col := colUp (colUp d.col w1.heap.size 3) w2.heap.size 4 }) := HD5.out.beside ht6 (fun z hz => by rw [hz]; show 6 ≤ colUp (colUp d.col w1.heap.size 3) w2.heap.size 4 g; rw [HCOL.out]; exact Nat.le_refl _) (fun z hz => by rw [hz]; have := HG.out.1; have := H.out.size; show d.w0.heap.size ≤ g; omega)
  clear ht6 HSP
  go_wp2_with fail
  go_ret
  exact deedOut_mk (d := d) HD6.out ⟨HR.out.jx, HR.out.yx, HR.out.len, rfl, rfl, by show r.2.1.Calm; rw [HRR.out]; exact lWrite_calm HR.out.calm _ _ _ _, by show r.2.1.Le _; rw [HRR.out]; exact lWrite_le HR.out.le _ _ _ HX.out.rj, by have := HR.out.m0; omega, HR.out.jl⟩ rfl rfl (by show d.n ≤ d.n + 4; omega)
end Go.Proofs.Ytcbbnmodjnnbeaa
/- The law on journals: a Rewrite, a State. -/
set_option linter.unusedSimpArgs false
set_option linter.unusedVariables false
namespace Go.Proofs.Ytcbbnmodjnnbeaa
open Go.RowKit

theorem calls_any {P : Program} {f : FuncId} {args : Array Value} {Q : Ending → World → Prop} {W : World} (F : World → Prop) (hF : F W) (h : ∀ W', F W' → Calls P f args W' Q) : Calls P f args W Q := h W hF
set_option maxRecDepth 100000 in
set_option maxHeartbeats 8000000 in
theorem jnRewrite (w : World) (d : DD) (m b : Nat) (h : DAt w d) (hr : Rdy d m) (hm : m + b ≤ 100000000) (x : DeedV) (hx : x.ok d.w0 b) (hk : x.kind = 3) (i j y : Nat) (hj : d.js[i]? = some j) (hy : d.ys[i]? = some y) (hF : ∀ z, w.heap.size ≤ z → d.col z = 6) (hn : d.n ≤ 100000000) :
    Calls Try.prog 89 #[.pointer (some ⟨d.dp, 0, none⟩), .agg x.cells.toArray, .pointer (some ⟨j, 0, none⟩), .pointer (some ⟨y, 0, none⟩)] w (DeedOut d.w0 d.dp (d.n + 4) (m + b)) := by
  have H : Hid (DAt w d) := h
  have HR : Hid (Rdy d m) := hr
  have HX : Hid (x.ok d.w0 b) := hx
  have HM : Hid (m + b ≤ 100000000) := hm
  have HJ : Hid (d.js[i]? = some j) := hj
  have HY : Hid (d.ys[i]? = some y) := hy
  have HF : Hid (∀ z, w.heap.size ≤ z → d.col z = 6) := hF
  have HN : Hid (d.n ≤ 100000000) := hn
  clear h hr hx hm hj hy hF hn
  unfold DeedV.cells
  rw [hk]
  clear hk
  go_enter Try.func89, Try.ntmps89
  go_wp2_with fail
  refine calls_any (F := fun W => Below w.heap.size w W ∧ W.heap[w.heap.size]? = some (.cells #[.int .i64 3, .int .i64 x.k, .int .i64 x.keep, .slice x.ra x.rs.length x.rc, .int .i64 x.S.gen, .int .i64 x.S.term, .int .i64 x.S.vote, .int .i64 x.S.base, .int .i64 x.S.bterm, .string x.S.data, .slice x.la x.S.log.length x.lc] 92) ∧ W.heap[w.heap.size + 1]? = some (.cells #[.int .i64 x.S.gen, .int .i64 x.S.term, .int .i64 x.S.vote, .int .i64 x.S.base, .int .i64 x.S.bterm, .string x.S.data, .slice x.la x.S.log.length x.lc] 90)) ⟨(by repeat (first | exact Below.refl _ _ | assumption | with_reducible refine below_drewN ?_ _ | refine Gr.ext ?_ _ | refine Gr.alloc ?_ _ | refine Gr.drew ?_ | (refine Gr.set ?_ (by first | (simp; done) | (simp; omega)) _))), Hp.alloc (Hp.new rfl) _, Hp.new (by simp)⟩ ?_
  rintro W ⟨hbW, hWa, hWs⟩
  have HWS : Hid (W.heap[w.heap.size + 1]? = some (.cells #[.int .i64 x.S.gen, .int .i64 x.S.term, .int .i64 x.S.vote, .int .i64 x.S.base, .int .i64 x.S.bterm, .string x.S.data, .slice x.la x.S.log.length x.lc] 90)) := hWs
  have HBW : Hid (Below w.heap.size w W) := hbW
  have HWA : Hid (W.heap[w.heap.size]? = some (.cells #[.int .i64 3, .int .i64 x.k, .int .i64 x.keep, .slice x.ra x.rs.length x.rc, .int .i64 x.S.gen, .int .i64 x.S.term, .int .i64 x.S.vote, .int .i64 x.S.base, .int .i64 x.S.bterm, .string x.S.data, .slice x.la x.S.log.length x.lc] 92)) := hWa
  have HW : Hid (DAt W d) := H.out.grown hbW
  have hal : w.heap.size < W.heap.size := (Array.getElem?_eq_some_iff.1 hWa).1
  have HNX : Hid (∀ z, w.heap.size ≤ z → ¬ d.FX z) := fun z hz e => by have a := HF.out z hz; have c := H.out.c3 z e; omega
  have HNY : Hid (∀ z, w.heap.size ≤ z → ¬ footY d.q d.ys z) := fun z hz e => by have a := HF.out z hz; have c := H.out.c4 z e; omega
  have HRD : Hid (∀ w', Below d.w0.heap.size d.w0 w' → x.rs ≠ [] → w'.reads 14 (.slice x.ra x.rs.length x.rc) (x.rs.map Rec.cells)) := fun w' hb hne => (HX.out.rd hne).keep fun k hk => hb.block k (reads_lt (HX.out.rd hne) hk)
  have HLD : Hid (∀ w', Below d.w0.heap.size d.w0 w' → x.S.log ≠ [] → w'.reads 8 (.slice x.la x.S.log.length x.lc) (x.S.log.map Ety.cells)) := fun w' hb hne => (HX.out.ld hne).keep fun k hk => hb.block k (reads_lt (HX.out.ld hne) hk)
  clear hbW hWa hWs
  obtain ⟨n, hn⟩ : ∃ n, n = x.S.log.length := ⟨_, rfl⟩
  have HNL : Hid (n = x.S.log.length) := hn
  have hn9 : n ≤ 1048576 := by rw [hn]; exact HX.out.ll
  obtain ⟨ll, hll⟩ : ∃ l, l = x.S.log ++ List.replicate 8 (mkEx (-77)) := ⟨_, rfl⟩
  have HLL : Hid (ll = x.S.log ++ List.replicate 8 (mkEx (-77))) := hll
  have HLN : Hid (ll.length = n + 8) := by show _ = _; rw [hll, hn]; simp
  have HL1 : Hid (∀ w', Below d.w0.heap.size d.w0 w' → Calls Try.prog 133 #[.slice x.la n x.lc] w' fun e w'' => ∃ g, e = .returned (.slice (some ⟨g, 0, none⟩) (n + 8) (n + 8)) ∧ w'.heap.size ≤ g ∧ w''.ownL 135 8 (.slice (some ⟨g, 0, none⟩) (n + 8) (n + 8)) (ll.map Ety.cells) ∧ Below w'.heap.size w' w'') := by
    intro w' hb
    rw [hn, hll]
    exact lawLentE w' x.la x.lc x.S.log (HLD.out w' hb) HX.out.ll
  obtain ⟨r, hr⟩ : ∃ r, r = lRewrite d.js.length d.Dx d.Lx i x.S := ⟨_, rfl⟩
  have HRR : Hid (r = lRewrite d.js.length d.Dx d.Lx i x.S) := hr
  rw [← hn]
  rw [← hn] at HWA HWS
  have hal' : w.heap.size + 1 < W.heap.size := (Array.getElem?_eq_some_iff.1 HWS.out).1
  clear hn hll hr
  refine (HL1.out W HW.out.below).mono ?_
  rintro e w1 ⟨g, rfl, hg, ho1, hb1⟩
  have HD1 : Hid (DAt w1 d) := HW.out.grown hb1
  have HO1 : Hid (w1.ownL 135 8 (.slice (some ⟨g, 0, none⟩) (n + 8) (n + 8)) (ll.map Ety.cells)) := ho1
  have hgl : g < w1.heap.size := ho1.lt rfl
  have HG : Hid (w.heap.size + 2 ≤ g ∧ g < w1.heap.size) := ⟨by omega, hgl⟩
  have HA1 : Hid (w1.heap[w.heap.size]? = some (.cells #[.int .i64 3, .int .i64 x.k, .int .i64 x.keep, .slice x.ra x.rs.length x.rc, .int .i64 x.S.gen, .int .i64 x.S.term, .int .i64 x.S.vote, .int .i64 x.S.base, .int .i64 x.S.bterm, .string x.S.data, .slice x.la n x.lc] 92)) := (hb1.block _ hal).trans HWA.out
  have HS1 : Hid (w1.heap[w.heap.size + 1]? = some (.cells #[.int .i64 x.S.gen, .int .i64 x.S.term, .int .i64 x.S.vote, .int .i64 x.S.base, .int .i64 x.S.bterm, .string x.S.data, .slice x.la n x.lc] 90)) := (hb1.block _ hal').trans HWS.out
  have hal1 : w.heap.size < w1.heap.size := by have := hb1.size; omega
  have hal1' : w.heap.size + 1 < w1.heap.size := by have := hb1.size; omega
  obtain ⟨a0, a1, a2, a3, a4, a5, a6, a7, a8, a9, a10, af⟩ := deed_cells HA1.out
  have s0 : w1.cell? ⟨w.heap.size + 1, 0, none⟩ = some (.int .i64 x.S.gen) := by simp only [World.cell?, HS1.out]; rfl
  have s1 : w1.cell? ⟨w.heap.size + 1, 1, none⟩ = some (.int .i64 x.S.term) := by simp only [World.cell?, HS1.out]; rfl
  have s2 : w1.cell? ⟨w.heap.size + 1, 2, none⟩ = some (.int .i64 x.S.vote) := by simp only [World.cell?, HS1.out]; rfl
  have s3 : w1.cell? ⟨w.heap.size + 1, 3, none⟩ = some (.int .i64 x.S.base) := by simp only [World.cell?, HS1.out]; rfl
  have s4 : w1.cell? ⟨w.heap.size + 1, 4, none⟩ = some (.int .i64 x.S.bterm) := by simp only [World.cell?, HS1.out]; rfl
  have s5 : w1.cell? ⟨w.heap.size + 1, 5, none⟩ = some (.string x.S.data) := by simp only [World.cell?, HS1.out]; rfl
  have s6 : w1.cell? ⟨w.heap.size + 1, 6, none⟩ = some (.slice x.la n x.lc) := by simp only [World.cell?, HS1.out]; rfl
  have sf : ∀ o, w1.frozen? ⟨w.heap.size + 1, o, none⟩ = false := fun o => by simp [World.frozen?, HS1.out]
  clear hg ho1 hb1 hgl
  go_wp2_with fail
  refine calls_any (F := fun W => DAt W d ∧ W.ownL 135 8 (.slice (some ⟨g, 0, none⟩) (n + 8) (n + 8)) (ll.map Ety.cells) ∧ W.heap[w.heap.size]? = some (.cells #[.int .i64 3, .int .i64 x.k, .int .i64 x.keep, .slice x.ra x.rs.length x.rc, .int .i64 x.S.gen, .int .i64 x.S.term, .int .i64 x.S.vote, .int .i64 x.S.base, .int .i64 x.S.bterm, .string x.S.data, .slice x.la n x.lc] 92) ∧ w1.heap.size ≤ W.heap.size) ⟨?_, ?_, ?_, ?_⟩ ?_
  · refine HD1.out.beside (S := fun z => z = w.heap.size + 1) (turned_set (S := fun z => z = w.heap.size + 1) (World.turned.refl w1 _) rfl _) (fun z hz => ?_) (fun z hz => ?_)
    · rw [hz, HF.out _ (Nat.le_succ _)]; exact Nat.le_refl _
    · have := H.out.size; rw [hz]; omega
  · exact HO1.out.set (fun e => by have e' : g = w.heap.size + 1 := Option.some.inj e; have := HG.out.1; omega) _
  · exact (Below.heap_setCell _ _ _ _ (by simp)).trans HA1.out
  · simp
  rintro w2 ⟨hd2, ho2, ha2, hs2⟩
  have HD2 : Hid (DAt w2 d) := hd2
  have HO2 : Hid (w2.ownL 135 8 (.slice (some ⟨g, 0, none⟩) (n + 8) (n + 8)) (ll.map Ety.cells)) := ho2
  have HA2 : Hid (w2.heap[w.heap.size]? = some (.cells #[.int .i64 3, .int .i64 x.k, .int .i64 x.keep, .slice x.ra x.rs.length x.rc, .int .i64 x.S.gen, .int .i64 x.S.term, .int .i64 x.S.vote, .int .i64 x.S.base, .int .i64 x.S.bterm, .string x.S.data, .slice x.la n x.lc] 92)) := ha2
  have HC1 : Hid (Calls Try.prog 100 #[.pointer (some ⟨j, 0, none⟩), .agg #[.int .i64 x.S.gen, .int .i64 x.S.term, .int .i64 x.S.vote, .int .i64 x.S.base, .int .i64 x.S.bterm, .string x.S.data, .slice (some ⟨g, 0, none⟩) n (n + 8)]] w2 fun e w' => e = .returned (.int .i64 r.1) ∧ XOut w2 w' d.p d.js d.FX r.2.1 r.2.2) := by
    rw [HRR.out, HNL.out]
    have hp := lentE_prefix (l := x.S.log) (r := List.replicate 8 (mkEx (-77))) (by rw [← HLL.out]; exact HO2.out) HNL.out
    rw [HNL.out] at hp
    exact xRewrite w2 d.p d.js d.FX d.Dx d.Lx HD2.out.px i j HJ.out x.S (some ⟨g, 0, none⟩) (x.S.log.length + 8) (fun _ => hp) (HD2.out.live HR.out) m HR.out.le (by have := HM.out; omega) (by have := HX.out.ll; omega) (fun gg => Nat.le_trans (HX.out.lj gg) (by have := HM.out; omega))
  clear a0 a1 a2 a3 a4 a5 a6 a7 a8 a9 a10 af s0 s1 s2 s3 s4 s5 s6 sf hd2 ho2 ha2 HS1 HWS HA1 HO1 HD1
  refine HC1.out.mono ?_
  rintro e w3 ⟨rfl, ho3⟩
  obtain ⟨F2, hd3⟩ := HD2.out.x' ho3
  have HD3 : Hid (DAt w3 { d with js := d.js, FX := F2, Dx := r.2.1, Lx := r.2.2, col := colUp d.col w2.heap.size 3 }) := hd3
  have hal2 : w.heap.size < w2.heap.size := by omega
  have HA3 : Hid (w3.heap[w.heap.size]? = some (.cells #[.int .i64 3, .int .i64 x.k, .int .i64 x.keep, .slice x.ra x.rs.length x.rc, .int .i64 x.S.gen, .int .i64 x.S.term, .int .i64 x.S.vote, .int .i64 x.S.base, .int .i64 x.S.bterm, .string x.S.data, .slice x.la n x.lc] 92)) := (ho3.block hal2 (HNX.out _ (Nat.le_refl _))).trans HA2.out
  have HO3 : Hid (w3.ownL 135 8 (.slice (some ⟨g, 0, none⟩) (n + 8) (n + 8)) (ll.map Ety.cells)) := HO2.out.keep fun z hz => ho3.block (HO2.out.lt hz) (HNX.out z (by have hz : g = z := Option.some.inj hz; have := HG.out.1; omega))
  have hs3 : w2.heap.size ≤ w3.heap.size := ho3.size
  have HC2 : Hid (Calls Try.prog 134 #[.pointer (some ⟨y, 0, none⟩), .agg #[.int .i64 x.S.gen, .int .i64 x.S.term, .int .i64 x.S.vote, .int .i64 x.S.base, .int .i64 x.S.bterm, .string x.S.data, .slice x.la n x.lc]] w3 fun e w' => e = .returned (.int .i64 r.1) ∧ YOut w3 w' d.q d.ys r.2.1 r.2.2) := by
    have e3 := HR.out.len
    have hle := HR.out.le
    have hpy := hd3.py
    simp only at hpy
    rw [HR.out.D, HR.out.L] at hpy
    rw [HRR.out, HNL.out, ← e3]
    exact yRewrite w3 d.q d.ys d.Dx d.Lx hpy i y HY.out x.S x.la x.lc (HLD.out w3 hd3.below) m hle (by have := HM.out; omega) (by have := HX.out.ll; omega) (fun gg => Nat.le_trans (HX.out.lj gg) (by have := HM.out; omega))
  clear ho3 HC1 hd3
  obtain ⟨a0, a1, a2, a3, a4, a5, a6, a7, a8, a9, a10, af⟩ := deed_cells HA3.out
  have hal3 : w.heap.size < w3.heap.size := by omega
  go_wp2_with fail
  refine HC2.out.mono ?_
  rintro e w4 ⟨rfl, ho4⟩
  have hd4 := HD3.out.y' ho4.1 (fun z hz => .inl hz) ho4.2
  have HD4 : Hid (DAt w4 { d with js := d.js, ys := d.ys, FX := F2, Dx := r.2.1, Dy := r.2.1, Lx := r.2.2, Ly := r.2.2, col := colUp (colUp d.col w2.heap.size 3) w3.heap.size 4 }) := hd4
  have HA4 : Hid (w4.heap[w.heap.size]? = some (.cells #[.int .i64 3, .int .i64 x.k, .int .i64 x.keep, .slice x.ra x.rs.length x.rc, .int .i64 x.S.gen, .int .i64 x.S.term, .int .i64 x.S.vote, .int .i64 x.S.base, .int .i64 x.S.bterm, .string x.S.data, .slice x.la n x.lc] 92)) := (ho4.2.block _ hal3 (HNY.out _ (Nat.le_refl _))).trans HA3.out
  have HO4 : Hid (w4.ownL 135 8 (.slice (some ⟨g, 0, none⟩) (n + 8) (n + 8)) (ll.map Ety.cells)) := HO3.out.keep fun z hz => ho4.2.block z (HO3.out.lt hz) (HNY.out z (by have hz : g = z := Option.some.inj hz; have := HG.out.1; omega))
  have hs4 : w3.heap.size ≤ w4.heap.size := ho4.2.size
  have HCOL : Hid (colUp (colUp d.col w2.heap.size 3) w3.heap.size 4 g = 6) := by
    show _ = _
    rw [colUp_lt (by have := HG.out.2; omega), colUp_lt (by have := HG.out.2; omega), HF.out g (by have := HG.out.1; omega)]
  clear a0 a1 a2 a3 a4 a5 a6 a7 a8 a9 a10 af ho4 HC2 hd4
  obtain ⟨a0, a1, a2, a3, a4, a5, a6, a7, a8, a9, a10, af⟩ := deed_cells HA4.out
  have hal4 : w.heap.size < w4.heap.size := by omega
  have HB4 : Hid (Below d.w0.heap.size d.w0 w4) := HD4.out.below
  go_wp2_with fail
  refine (HL1.out w4 HB4.out).mono ?_
  rintro e w5 ⟨g5, rfl, hg5, ho5, hb5⟩
  have HD5 : Hid (DAt w5 { d with js := d.js, ys := d.ys, FX := F2, Dx := r.2.1, Dy := r.2.1, Lx := r.2.2, Ly := r.2.2, col := colUp (colUp d.col w2.heap.size 3) w3.heap.size 4 }) := HD4.out.grown hb5
  have HO5 : Hid (w5.ownL 135 8 (.slice (some ⟨g, 0, none⟩) (n + 8) (n + 8)) (ll.map Ety.cells)) := HO4.out.keep fun z hz => hb5.block z (HO4.out.lt hz)
  have HSM : Hid (Calls Try.prog 102 #[.slice (some ⟨g, 0, none⟩) (n + 8) (n + 8), .slice (some ⟨g5, 0, none⟩) (n + 8) (n + 8)] w5 fun e w' => e = .returned (.bool true) ∧ ∃ k, w' = w5.drewN k) := by
    have h := sameEntries_same (some ⟨g, 0, none⟩) (some ⟨g5, 0, none⟩) (n + 8) (n + 8) ll w5 (by rw [HLN.out]; omega) (by rw [HLN.out]; exact fun _ => HO5.out.reads) (by rw [HLN.out]; exact fun _ => ho5.reads)
    rw [HLN.out] at h
    exact h
  clear a0 a1 a2 a3 a4 a5 a6 a7 a8 a9 a10 af hg5 ho5 hb5 HL1 HB4
  go_wp2_with fail
  refine HSM.out.mono ?_
  rintro e w6 ⟨rfl, k6, rfl⟩
  have HO6 : Hid ((w5.drewN k6).ownL 135 8 (.slice (some ⟨g, 0, none⟩) (n + 8) (n + 8)) (ll.map Ety.cells)) := HO5.out.keep fun z hz => (below_drewN (Below.refl w5.heap.size w5) k6).block z (HO5.out.lt hz)
  have HD6 : Hid (DAt (w5.drewN k6) { d with js := d.js, ys := d.ys, FX := F2, Dx := r.2.1, Dy := r.2.1, Lx := r.2.2, Ly := r.2.2, col := colUp (colUp d.col w2.heap.size 3) w3.heap.size 4 }) := HD5.out.grown (below_drewN (Below.refl w5.heap.size w5) k6)
  have HSP : Hid (Calls Try.prog 135 #[.slice (some ⟨g, 0, none⟩) (n + 8) (n + 8)] (w5.drewN k6) fun e w' => e = .returned (.tuple #[]) ∧ (w5.drewN k6).turned w' (fun z => z = g)) := lawSpoilE (w5.drewN k6) g (n + 8) (ll.map Ety.cells) (by rw [List.length_map]; exact HLN.out) HO6.out (by omega)
  clear HSM
  go_wp2_with fail
  refine HSP.out.mono ?_
  rintro e w7 ⟨rfl, ht7⟩
  have HD7 : Hid (DAt w7 { d with js := d.js, ys := d.ys, FX := F2, Dx := r.2.1, Dy := r.2.1, Lx := r.2.2, Ly := r.2.2, col := colUp (colUp d.col w2.heap.size 3) w3.heap.size 4 }) := HD6.out.beside ht7 (fun z hz => by rw [hz]; show 6 ≤ colUp (colUp d.col w2.heap.size 3) w3.heap.size 4 g; rw [HCOL.out]; exact Nat.le_refl _) (fun z hz => by rw [hz]; have := HG.out.1; have := H.out.size; show d.w0.heap.size ≤ g; omega)
  clear ht7 HSP
  go_wp2_with fail
  go_ret
  exact deedOut_mk (d := d) HD7.out ⟨HR.out.jx, HR.out.yx, HR.out.len, rfl, rfl, by show r.2.1.Calm; rw [HRR.out]; exact lRewrite_calm HR.out.calm _ _ _ _, by show r.2.1.Le _; rw [HRR.out]; exact lRewrite_le HR.out.le _ _ _ HX.out.lj, by have := HR.out.m0; omega, HR.out.jl⟩ rfl rfl (by show d.n ≤ d.n + 4; omega)
theorem lState_er (n : Nat) (L : Lv) (i : Nat) : (lState n L i).2 = 0 ∨ (lState n L i).2 = 4 := by
  unfold lState
  split
  · exact .inr rfl
  · split
    · exact .inl rfl
    · exact .inr rfl
theorem lState_len {d : DD} {w : World} (h : DAt w d) {m : Nat} (hr : Rdy d m) (n i : Nat) : (lState n d.Lx i).1.log.length ≤ m := by
  unfold lState
  split
  · exact Nat.zero_le _
  · rename_i k S hL
    split
    · obtain ⟨l, hl⟩ := h.live hr k S hL
      exact (hl.len hr.le).1
    · exact Nat.zero_le _
set_option maxRecDepth 100000 in
set_option maxHeartbeats 8000000 in
theorem jnState (w : World) (d : DD) (m b : Nat) (h : DAt w d) (hr : Rdy d m) (hm : m + b ≤ 100000000) (x : DeedV) (hx : x.ok d.w0 b) (hk : x.kind = 4) (i j y : Nat) (hj : d.js[i]? = some j) (hy : d.ys[i]? = some y) (hF : ∀ z, w.heap.size ≤ z → d.col z = 6) (hn : d.n ≤ 100000000) :
    Calls Try.prog 89 #[.pointer (some ⟨d.dp, 0, none⟩), .agg x.cells.toArray, .pointer (some ⟨j, 0, none⟩), .pointer (some ⟨y, 0, none⟩)] w (DeedOut d.w0 d.dp (d.n + 4) m) := by
  have H : Hid (DAt w d) := h
  have HR : Hid (Rdy d m) := hr
  have HX : Hid (x.ok d.w0 b) := hx
  have HM : Hid (m + b ≤ 100000000) := hm
  have HJ : Hid (d.js[i]? = some j) := hj
  have HY : Hid (d.ys[i]? = some y) := hy
  have HF : Hid (∀ z, w.heap.size ≤ z → d.col z = 6) := hF
  have HN : Hid (d.n ≤ 100000000) := hn
  clear h hr hx hm hj hy hF hn
  unfold DeedV.cells
  rw [hk]
  clear hk
  go_enter Try.func89, Try.ntmps89
  go_wp2_with fail
  obtain ⟨W, hWeq⟩ : ∃ W, W = w.alloc (.cells #[.int .i64 4, .int .i64 x.k, .int .i64 x.keep, .slice x.ra x.rs.length x.rc, .int .i64 x.S.gen, .int .i64 x.S.term, .int .i64 x.S.vote, .int .i64 x.S.base, .int .i64 x.S.bterm, .string x.S.data, .slice x.la x.S.log.length x.lc] 92) := ⟨_, rfl⟩
  rw [← hWeq]
  have hbW : Below w.heap.size w W := by rw [hWeq]; exact (by repeat (first | exact Below.refl _ _ | assumption | with_reducible refine below_drewN ?_ _ | refine Gr.ext ?_ _ | refine Gr.alloc ?_ _ | refine Gr.drew ?_ | (refine Gr.set ?_ (by first | (simp; done) | (simp; omega)) _)))
  have hWa : W.heap[w.heap.size]? = some (.cells #[.int .i64 4, .int .i64 x.k, .int .i64 x.keep, .slice x.ra x.rs.length x.rc, .int .i64 x.S.gen, .int .i64 x.S.term, .int .i64 x.S.vote, .int .i64 x.S.base, .int .i64 x.S.bterm, .string x.S.data, .slice x.la x.S.log.length x.lc] 92) := by rw [hWeq]; exact Hp.new rfl
  clear hWeq
  have HBW : Hid (Below w.heap.size w W) := hbW
  have HWA : Hid (W.heap[w.heap.size]? = some (.cells #[.int .i64 4, .int .i64 x.k, .int .i64 x.keep, .slice x.ra x.rs.length x.rc, .int .i64 x.S.gen, .int .i64 x.S.term, .int .i64 x.S.vote, .int .i64 x.S.base, .int .i64 x.S.bterm, .string x.S.data, .slice x.la x.S.log.length x.lc] 92)) := hWa
  have HW : Hid (DAt W d) := H.out.grown hbW
  have hal : w.heap.size < W.heap.size := (Array.getElem?_eq_some_iff.1 hWa).1
  have HNX : Hid (∀ z, w.heap.size ≤ z → ¬ d.FX z) := fun z hz e => by have a := HF.out z hz; have c := H.out.c3 z e; omega
  have HNY : Hid (∀ z, w.heap.size ≤ z → ¬ footY d.q d.ys z) := fun z hz e => by have a := HF.out z hz; have c := H.out.c4 z e; omega
  have HRD : Hid (∀ w', Below d.w0.heap.size d.w0 w' → x.rs ≠ [] → w'.reads 14 (.slice x.ra x.rs.length x.rc) (x.rs.map Rec.cells)) := fun w' hb hne => (HX.out.rd hne).keep fun k hk => hb.block k (reads_lt (HX.out.rd hne) hk)
  have HLD : Hid (∀ w', Below d.w0.heap.size d.w0 w' → x.S.log ≠ [] → w'.reads 8 (.slice x.la x.S.log.length x.lc) (x.S.log.map Ety.cells)) := fun w' hb hne => (HX.out.ld hne).keep fun k hk => hb.block k (reads_lt (HX.out.ld hne) hk)
  clear hbW hWa
  obtain ⟨T, hT⟩ : ∃ T, T = (lState d.js.length d.Lx i).1 := ⟨_, rfl⟩
  obtain ⟨er, her⟩ : ∃ e, e = (lState d.js.length d.Lx i).2 := ⟨_, rfl⟩
  have HTE : Hid (T = (lState d.js.length d.Lx i).1 ∧ er = (lState d.js.length d.Lx i).2) := ⟨hT, her⟩
  have HEC : Hid (er = 0 ∨ er = 4) := by show _ ∨ _; rw [her]; exact lState_er _ _ _
  have HTL : Hid (T.log.length ≤ 100000000) := by show _ ≤ _; rw [hT]; have := lState_len H.out HR.out d.js.length i; have := HM.out; omega
  obtain ⟨n, hn⟩ : ∃ n, n = T.log.length := ⟨_, rfl⟩
  have HNL : Hid (n = T.log.length) := hn
  have hn9 : n ≤ 100000000 := by rw [hn]; exact HTL.out
  have HC1 : Hid (Calls Try.prog 42 #[.pointer (some ⟨j, 0, none⟩)] W fun e w' => ∃ la lc, e = .returned (.tuple #[.agg #[.int .i64 T.gen, .int .i64 T.term, .int .i64 T.vote, .int .i64 T.base, .int .i64 T.bterm, .string T.data, .slice la n lc], .int .i64 er]) ∧ w'.ownL 135 8 (.slice la n lc) (T.log.map Ety.cells) ∧ (∀ z, (Value.slice la n lc).ownBlock = some z → W.heap.size ≤ z) ∧ (er ≠ 0 → Value.slice la n lc = .slice none 0 0) ∧ Below W.heap.size W w') := by
    refine (xState W d.p d.js d.FX d.Dx d.Lx HW.out.px i j HJ.out (HW.out.live HR.out) m HR.out.le (by have := HM.out; omega)).mono ?_
    rintro e w' ⟨lv, rfl, ho, hk, hz, hb⟩
    rw [← HTE.out.1, ← HTE.out.2] at *
    obtain ⟨la, lc, hv⟩ := ho.len
    rw [List.length_map, ← HNL.out] at hv
    subst hv
    exact ⟨la, lc, rfl, ho, hk, hz, hb⟩
  clear hT her hn
  refine HC1.out.mono ?_
  rintro e w1 ⟨la, lc, rfl, ho1, hk1, hz1, hb1⟩
  have HO1 : Hid (w1.ownL 135 8 (.slice la n lc) (T.log.map Ety.cells)) := ho1
  have HK1 : Hid (∀ z, (Value.slice la n lc).ownBlock = some z → W.heap.size ≤ z ∧ z < w1.heap.size) := fun z hz => ⟨hk1 z hz, ho1.lt hz⟩
  have HZ1 : Hid (er ≠ 0 → Value.slice la n lc = .slice none 0 0) := hz1
  have HD1 : Hid (DAt w1 d) := HW.out.grown hb1
  have hs1 : W.heap.size ≤ w1.heap.size := hb1.size
  clear ho1 hk1 hz1 hb1 HC1
  go_wp2_with fail
  refine calls_any (F := fun W => Below w1.heap.size w1 W ∧ W.heap[w1.heap.size]? = some (.cells #[.int .i64 T.gen, .int .i64 T.term, .int .i64 T.vote, .int .i64 T.base, .int .i64 T.bterm, .string T.data, .slice la n lc] 90)) ⟨(by repeat (first | exact Below.refl _ _ | assumption | with_reducible refine below_drewN ?_ _ | refine Gr.ext ?_ _ | refine Gr.alloc ?_ _ | refine Gr.drew ?_ | (refine Gr.set ?_ (by first | (simp; done) | (simp; omega)) _))), Hp.new rfl⟩ ?_
  rintro w2 ⟨hb2, hq2⟩
  obtain ⟨sq, hsq⟩ : ∃ z, z = w1.heap.size := ⟨_, rfl⟩
  rw [← hsq] at hq2 ⊢
  have HSQ : Hid (sq = w1.heap.size) := hsq
  have HD2 : Hid (DAt w2 d) := HD1.out.grown hb2
  have HO2 : Hid (w2.ownL 135 8 (.slice la n lc) (T.log.map Ety.cells)) := HO1.out.keep fun z hz => hb2.block z (HO1.out.lt hz)
  have HQ2 : Hid (w2.heap[sq]? = some (.cells #[.int .i64 T.gen, .int .i64 T.term, .int .i64 T.vote, .int .i64 T.base, .int .i64 T.bterm, .string T.data, .slice la n lc] 90)) := hq2
  have hsl2 : sq < w2.heap.size := (Array.getElem?_eq_some_iff.1 hq2).1
  have HC2 : Hid (Calls Try.prog 136 #[.pointer (some ⟨y, 0, none⟩)] w2 fun e w' => ∃ lb ld, e = .returned (.tuple #[.agg #[.int .i64 T.gen, .int .i64 T.term, .int .i64 T.vote, .int .i64 T.base, .int .i64 T.bterm, .string T.data, .slice lb n ld], .int .i64 er]) ∧ w'.ownL 135 8 (.slice lb n ld) (T.log.map Ety.cells) ∧ Below w2.heap.size w2 w') := by
    have e3 := HR.out.len
    have hle := HR.out.le
    have hpy := HD2.out.py
    rw [HR.out.D, HR.out.L] at hpy
    refine (yState w2 d.q d.ys d.Dx d.Lx hpy i y HY.out m hle (by have := HM.out; omega)).mono ?_
    rintro e w' ⟨lv, rfl, ho, hb⟩
    rw [e3] at *
    rw [← HTE.out.1, ← HTE.out.2] at *
    obtain ⟨lb, ld, hv⟩ := ho.len
    rw [List.length_map, ← HNL.out] at hv
    subst hv
    exact ⟨lb, ld, rfl, ho, hb⟩
  clear hb2 hq2 hsq HO1
  refine HC2.out.mono ?_
  rintro e w3 ⟨lb, ld, rfl, ho3, hb3⟩
  have HD3 : Hid (DAt w3 d) := HD2.out.grown hb3
  have HO3 : Hid (w3.ownL 135 8 (.slice la n lc) (T.log.map Ety.cells)) := HO2.out.keep fun z hz => hb3.block z (HO2.out.lt hz)
  have HP3 : Hid (w3.ownL 135 8 (.slice lb n ld) (T.log.map Ety.cells)) := ho3
  have HQ3 : Hid (w3.heap[sq]? = some (.cells #[.int .i64 T.gen, .int .i64 T.term, .int .i64 T.vote, .int .i64 T.base, .int .i64 T.bterm, .string T.data, .slice la n lc] 90)) := (hb3.block _ hsl2).trans HQ2.out
  have hsl3 : sq < w3.heap.size := (Array.getElem?_eq_some_iff.1 HQ3.out).1
  have s0 : w3.cell? ⟨sq, 0, none⟩ = some (.int .i64 T.gen) := by simp only [World.cell?, HQ3.out]; rfl
  have s1 : w3.cell? ⟨sq, 1, none⟩ = some (.int .i64 T.term) := by simp only [World.cell?, HQ3.out]; rfl
  have s2 : w3.cell? ⟨sq, 2, none⟩ = some (.int .i64 T.vote) := by simp only [World.cell?, HQ3.out]; rfl
  have s3 : w3.cell? ⟨sq, 3, none⟩ = some (.int .i64 T.base) := by simp only [World.cell?, HQ3.out]; rfl
  have s4 : w3.cell? ⟨sq, 4, none⟩ = some (.int .i64 T.bterm) := by simp only [World.cell?, HQ3.out]; rfl
  have s5 : w3.cell? ⟨sq, 5, none⟩ = some (.string T.data) := by simp only [World.cell?, HQ3.out]; rfl
  have s6 : w3.cell? ⟨sq, 6, none⟩ = some (.slice la n lc) := by simp only [World.cell?, HQ3.out]; rfl
  have HSS : Hid (∀ W', Below w3.heap.size w3 W' → Calls Try.prog 45 #[.agg #[.int .i64 T.gen, .int .i64 T.term, .int .i64 T.vote, .int .i64 T.base, .int .i64 T.bterm, .string T.data, .slice la n lc], .agg #[.int .i64 T.gen, .int .i64 T.term, .int .i64 T.vote, .int .i64 T.base, .int .i64 T.bterm, .string T.data, .slice lb n ld]] W' fun e w' => e = .returned (.bool true) ∧ Below w3.heap.size w3 w') := by
    intro W' hW'
    have h := sameState_same la lb lc ld T W' (by have := HTL.out; omega) (fun _ => by rw [← HNL.out]; exact HO3.out.reads.keep fun z hz => hW'.block z (HO3.out.lt hz)) (fun _ => by rw [← HNL.out]; exact HP3.out.reads.keep fun z hz => hW'.block z (HP3.out.lt hz))
    rw [← HNL.out] at h
    exact h.mono fun e w' h => ⟨h.1, belowVia h.2 hW'⟩
  clear ho3 hb3 HC2 HO2 HQ2 hsl2 HD2
  go_wp2_with fail
  refine (HSS.out _ (by repeat (first | exact Below.refl _ _ | assumption | with_reducible refine below_drewN ?_ _ | refine Gr.ext ?_ _ | refine Gr.alloc ?_ _ | refine Gr.drew ?_ | (refine Gr.set ?_ (by first | (simp; done) | (simp; omega)) _)))).mono ?_
  rintro e w5 ⟨rfl, hb5⟩
  have HD5 : Hid (DAt w5 d) := HD3.out.grown hb5
  have HO5 : Hid (w5.ownL 135 8 (.slice la n lc) (T.log.map Ety.cells)) := HO3.out.keep fun z hz => hb5.block z (HO3.out.lt hz)
  have HQ5 : Hid (w5.heap[sq]? = some (.cells #[.int .i64 T.gen, .int .i64 T.term, .int .i64 T.vote, .int .i64 T.base, .int .i64 T.bterm, .string T.data, .slice la n lc] 90)) := (hb5.block _ hsl3).trans HQ3.out
  have hsl5 : sq < w5.heap.size := (Array.getElem?_eq_some_iff.1 HQ5.out).1
  clear s0 s1 s2 s3 s4 s5 s6 hb5 HSS HO3 HP3 HQ3 hsl3 HD3
  have hnq : ∀ w, (binOp .neq 88 (.slice none 0 0) (.slice none 0 0)).run Try.prog w = .ok (.bool false) w := fun _ => by kernel_rfl
  have s6 : w5.cell? ⟨sq, 6, none⟩ = some (.slice la n lc) := by simp only [World.cell?, HQ5.out]; rfl
  obtain ⟨k0, k1, k2, k3, k4, kf⟩ := desk_cells HD5.out.blk
  have hdW5 : d.dp < w5.heap.size := HD5.out.lt
  have HSC : Hid (d.col sq = 6) := HF.out sq (by rw [HSQ.out]; have := HBW.out.size; omega)
  have HOB : Hid (∀ W', Below w5.heap.size w5 W' → Calls Try.prog 137 #[.pointer (some ⟨d.kb, 0, none⟩), .slice la n lc] W' fun e w' => e = .returned (.tuple #[]) ∧ (∃ F' col, DAt w' { d with FB := F', n := d.n + 4, col := col }) ∧ w'.cell? ⟨d.dp, 4, none⟩ = some (.pointer (some ⟨d.kb, 0, none⟩)) ∧ w'.cell? ⟨sq, 6, none⟩ = some (.slice la n lc)) := by
    intro W' hW'
    have hd := HD5.out.grown hW'
    have ho := HO5.out.keep (w' := W') fun z hz => hW'.block z (HO5.out.lt hz)
    have hml : (T.log.map Ety.cells).length = n := by rw [List.length_map]; exact HNL.out.symm
    have hcz : ∀ z, (Value.slice la n lc).ownBlock = some z → d.col z = 6 := fun z hz => HF.out z (by have := (HK1.out z hz).1; have := HBW.out.size; omega)
    have hbk := bkOwn W' d.kb d.n d.FB hd.bk la lc (T.log.map Ety.cells) (by rw [hml]; exact ho) (fun z hz hf => by rw [hml] at hz; have a := hcz z hz; have c := hd.c5 z hf; omega) (by rw [hml]; exact hn9) (by have := HN.out; omega)
    rw [hml] at hbk
    refine hbk.mono ?_
    rintro e w' ⟨rfl, F', hb, hf, ht⟩
    have hsz : W'.heap.size ≤ w'.heap.size := ht.size
    obtain ⟨col, h9⟩ := hd.b (.slice la n lc) hcz hb hf ht (fun z hz => by have := (HK1.out z hz).1; have := HW.out.size; omega)
    refine ⟨rfl, ⟨F', col, h9⟩, (desk_cells h9.blk).2.2.2.2.1, ?_⟩
    have hq : W'.heap[sq]? = some (.cells #[.int .i64 T.gen, .int .i64 T.term, .int .i64 T.vote, .int .i64 T.base, .int .i64 T.bterm, .string T.data, .slice la n lc] 90) := (hW'.block _ hsl5).trans HQ5.out
    have hq' : w'.heap[sq]? = some (.cells #[.int .i64 T.gen, .int .i64 T.term, .int .i64 T.vote, .int .i64 T.base, .int .i64 T.bterm, .string T.data, .slice la n lc] 90) := (ht.block sq (Array.getElem?_eq_some_iff.1 hq).1 (fun e => by
      rcases e with e | e
      · have a := hd.c5 sq e; have c := HSC.out; omega
      · have := (HK1.out sq e).2; have := HSQ.out; omega)).trans hq
    simp only [World.cell?, hq']; rfl
  rcases HEC.out with he | he
  · have he0 : (er == 0) = true := by rw [he]; rfl
    subst he
    go_wp2_with fail
    go_region_held3 (fun w' => w'.cell? ⟨d.dp, 4, none⟩ = some (.pointer (some ⟨d.kb, 0, none⟩)) ∧ w'.cell? ⟨sq, 6, none⟩ = some (.slice la n lc)) (go_keep)
      (first | (
        go_at_call 137
        refine (HOB.out _ (by repeat (first | exact Below.refl _ _ | assumption | with_reducible refine below_drewN ?_ _ | refine Gr.ext ?_ _ | refine Gr.alloc ?_ _ | refine Gr.drew ?_ | (refine Gr.set ?_ (by first | (simp; done) | (simp; omega)) _)))).mono ?_
        rintro e w6 ⟨rfl, hd6, j4, j6⟩))
    obtain ⟨F', col, hd6⟩ := hd6
    have HD6 : Hid (DAt w6 { d with FB := F', n := d.n + 4, col := col }) := hd6
    clear hd6 j4 j6 HOB k0 k1 k2 k3 k4 kf s6
    go_wp2_with fail
    go_ret
    exact deedOut_mk (d := d) HD6.out ⟨HR.out.jx, HR.out.yx, HR.out.len, HR.out.D, HR.out.L, HR.out.calm, HR.out.le, HR.out.m0, by have := HR.out.jl; show d.js.length ≤ d.n + 4; omega⟩ rfl rfl (by show d.n + 4 ≤ d.n + 4; omega)
  · have hz := HZ1.out (by rw [he]; decide)
    subst he
    injection hz with z1 z2 z3
    subst z1 z2 z3
    go_wp2_with fail
    go_region_held3 (fun w' => w'.cell? ⟨d.dp, 4, none⟩ = some (.pointer (some ⟨d.kb, 0, none⟩)) ∧ w'.cell? ⟨sq, 6, none⟩ = some (.slice none 0 0)) (go_keep)
      (first | (
        go_at_call 137
        refine (HOB.out _ (by repeat (first | exact Below.refl _ _ | assumption | with_reducible refine below_drewN ?_ _ | refine Gr.ext ?_ _ | refine Gr.alloc ?_ _ | refine Gr.drew ?_ | (refine Gr.set ?_ (by first | (simp; done) | (simp; omega)) _)))).mono ?_
        rintro e w6 ⟨rfl, hd6, j4, j6⟩))
    obtain ⟨F', col, hd6⟩ := hd6
    have HD6 : Hid (DAt w6 { d with FB := F', n := d.n + 4, col := col }) := hd6
    clear hd6 j4 j6 HOB k0 k1 k2 k3 k4 kf s6
    go_wp2_with fail
    go_ret
    exact deedOut_mk (d := d) HD6.out ⟨HR.out.jx, HR.out.yx, HR.out.len, HR.out.D, HR.out.L, HR.out.calm, HR.out.le, HR.out.m0, by have := HR.out.jl; show d.js.length ≤ d.n + 4; omega⟩ rfl rfl (by show d.n + 4 ≤ d.n + 4; omega)
end Go.Proofs.Ytcbbnmodjnnbeaa
