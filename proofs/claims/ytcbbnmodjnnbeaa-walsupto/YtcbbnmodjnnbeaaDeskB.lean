/- The law on journals: deeds at the disk: Break, Crash, File. -/
import Derived.Test.YtcbbnmodjnnbeaaDeskZ
import Derived.Deep.RegionHeld3
import Derived.Test.YtcbbnmodjnnbeaaHeldM
import Derived.Test.YtcbbnmodjnnbeaaLists2
set_option linter.unusedSimpArgs false
set_option linter.unusedVariables false
namespace Go.Proofs.Ytcbbnmodjnnbeaa
open Go.RowKit

/-- What a call at the program's side leaves, as the walk wants it: the desk, what else is kept, how far. -/
def XStep (W w' : World) (d : DD) (z : Nat) (D : Dk) (L : Lv) (js : List Nat) : Prop := (∃ F col, DAt w' { d with js := js, FX := F, Dx := D, Lx := L, col := col }) ∧ z < w'.heap.size ∧ W.turned w' (fun k => d.FX k)
def YStep (W w' : World) (d : DD) (z : Nat) (D : Dk) (L : Lv) (ys : List Nat) : Prop := (∃ col, DAt w' { d with ys := ys, Dy := D, Ly := L, col := col }) ∧ z < w'.heap.size ∧ W.turned w' (footY d.q d.ys)
theorem xstep {W W' w' : World} {d : DD} {z : Nat} {D : Dk} {L : Lv} {js : List Nat} (h : DAt W d) (hz : z < W.heap.size) (hb : Below W.heap.size W W') (ho : XOut W' w' d.p js d.FX D L) : XStep W w' d z D L js := by
  obtain ⟨F, hp, hf, ht⟩ := ho
  refine ⟨(h.grown hb).x ⟨F, hp, hf, ht⟩, ?_, (World.turned.of_below hb _).trans ht fun _ _ h => h⟩
  have := hb.size; have := ht.size; omega
theorem ystep {W W' w' : World} {d : DD} {z : Nat} {D : Dk} {L : Lv} (h : DAt W d) (hz : z < W.heap.size) (hb : Below W.heap.size W W') (ho : YOut W' w' d.q d.ys D L) : YStep W w' d z D L d.ys := by
  refine ⟨(h.grown hb).y ho.1 (fun x hx => .inl hx) ho.2, ?_, (World.turned.of_below hb _).trans ho.2 fun _ _ h => h⟩
  have := hb.size; have := ho.2.size; omega
theorem DAt.nX {w : World} {d : DD} (h : DAt w d) : ¬ d.FX d.dp := fun e => by have a := h.c3 _ e; have b := h.c0; omega
theorem DAt.nY {w : World} {d : DD} (h : DAt w d) : ¬ footY d.q d.ys d.dp := fun e => by have a := h.c4 _ e; have b := h.c0; omega
set_option maxRecDepth 100000 in
set_option maxHeartbeats 8000000 in
theorem deedBreak (w : World) (d : DD) (m b : Nat) (h : DAt w d) (hr : Rdy d m) (hm : m ≤ 100000000) (x : DeedV) (hx : x.ok d.w0 b) (hk : x.kind = 5) :
    Calls Try.prog 38 #[.pointer (some ⟨d.dp, 0, none⟩), .agg x.cells.toArray] w (DeedOut d.w0 d.dp (d.n + 4) m) := by
  have H : Hid (DAt w d) := h
  have HR : Hid (Rdy d m) := hr
  have HX : Hid (x.ok d.w0 b) := hx
  have HMM : Hid (m ≤ 100000000) := hm
  obtain ⟨c0, c1, c2, c3, c4, cf⟩ := desk_cells h.blk
  have hdp := h.lt
  clear h hr hx hm
  unfold DeedV.cells
  rw [hk]
  clear hk
  go_enter Try.func38, Try.ntmps38
  go_wp2_with fail
  refine world_any (F := fun W => Below w.heap.size w W ∧ W.heap[w.heap.size]? = some (.cells #[.int .i64 5, .int .i64 x.k, .int .i64 x.keep, .slice x.ra x.rs.length x.rc, .int .i64 x.S.gen, .int .i64 x.S.term, .int .i64 x.S.vote, .int .i64 x.S.base, .int .i64 x.S.bterm, .string x.S.data, .slice x.la x.S.log.length x.lc] 92)) ⟨(by repeat (first | exact Below.refl _ _ | assumption | with_reducible refine below_drewN ?_ _ | refine Gr.ext ?_ _ | refine Gr.alloc ?_ _ | refine Gr.drew ?_ | (refine Gr.set ?_ (by first | (simp; done) | (simp; omega)) _))), Hp.new rfl⟩ ?_
  rintro W ⟨hbW, hWa⟩
  have HBW : Hid (Below w.heap.size w W) := hbW
  have HWA : Hid (W.heap[w.heap.size]? = some (.cells #[.int .i64 5, .int .i64 x.k, .int .i64 x.keep, .slice x.ra x.rs.length x.rc, .int .i64 x.S.gen, .int .i64 x.S.term, .int .i64 x.S.vote, .int .i64 x.S.base, .int .i64 x.S.bterm, .string x.S.data, .slice x.la x.S.log.length x.lc] 92)) := hWa
  have HW : Hid (DAt W d) := H.out.grown hbW
  clear c0 c1 c2 c3 c4 cf
  obtain ⟨k0, k1, k2, k3, k4, kf⟩ := desk_cells HW.out.blk
  obtain ⟨a0, a1, a2, a3, a4, a5, a6, a7, a8, a9, a10, af⟩ := deed_cells hWa
  have hal : w.heap.size < W.heap.size := (Array.getElem?_eq_some_iff.1 hWa).1
  have hdW : d.dp < W.heap.size := HW.out.lt
  have HFX : Hid (¬ d.FX w.heap.size) := fun e => by have := H.out.px.lt _ e; omega
  have HFY : Hid (¬ footY d.q d.ys w.heap.size) := fun e => by have := H.out.py.lt e; omega
  clear hbW hWa
  have HC1 : Hid (∀ W', Below W.heap.size W W' → Calls Try.prog 84 #[.pointer (some ⟨d.p, 0, none⟩), .int .i64 x.k, .int .i64 x.keep] W' fun e w' => e = .returned (.int .i64 (if x.k < 0 then 2 else 0)) ∧ XStep W w' d w.heap.size (if x.k < 0 then d.Dx else { d.Dx with due := x.k.toNat, keep := x.keep }) (d.Lx) d.js) := fun W' hW' =>
    (xBreak W' d.p d.js d.FX d.Dx d.Lx (HW.out.grown hW').px x.k x.keep HX.out.k0.2 HX.out.p0).mono fun e w' h => ⟨h.1, xstep HW.out hal hW' h.2⟩
  have NX : ¬ d.FX d.dp := H.out.nX
  have NA : ¬ d.FX w.heap.size := HFX.out
  obtain ⟨rv, hrv⟩ : ∃ v : Value, v = (.int .i64 (if x.k < 0 then 2 else 0)) := ⟨_, rfl⟩
  have HRV : Hid (rv = (.int .i64 (if x.k < 0 then 2 else 0))) := hrv
  rw [← hrv] at HC1
  clear hrv
  go_wp2_with fail
  go_region_held3 (fun w' => w'.cell? ⟨d.dp, 0, none⟩ = some (.pointer (some ⟨d.p, 0, none⟩)) ∧ w'.cell? ⟨w.heap.size, 1, none⟩ = some (.int .i64 x.k) ∧ w'.cell? ⟨w.heap.size, 2, none⟩ = some (.int .i64 x.keep)) (go_keep)
    (first | (
      go_at_call 84
      refine (HC1.out _ (by repeat (first | exact Below.refl _ _ | assumption | with_reducible refine below_drewN ?_ _ | refine Gr.ext ?_ _ | refine Gr.alloc ?_ _ | refine Gr.drew ?_ | (refine Gr.set ?_ (by first | (simp; done) | (simp; omega)) _)))).mono ?_
      rintro e w1 ⟨rfl, hw1⟩
      have i0 := tcellAt hw1.2.2 hdW NX k0
      have i10 := tcellAt hw1.2.2 hal NA a1
      have i20 := tcellAt hw1.2.2 hal NA a2))
  obtain ⟨⟨F1, col1, hd1⟩, hz1, ht1⟩ := hw1
  have HD1 : Hid (DAt w1 { d with js := d.js, FX := F1, Dx := if x.k < 0 then d.Dx else { d.Dx with due := x.k.toNat, keep := x.keep }, Lx := d.Lx, col := col1 }) := hd1
  have hA1 : w1.heap[w.heap.size]? = some (.cells #[.int .i64 5, .int .i64 x.k, .int .i64 x.keep, .slice x.ra x.rs.length x.rc, .int .i64 x.S.gen, .int .i64 x.S.term, .int .i64 x.S.vote, .int .i64 x.S.base, .int .i64 x.S.bterm, .string x.S.data, .slice x.la x.S.log.length x.lc] 92) := (ht1.block _ hal NA).trans HWA.out
  clear i0 i10 i20 NX NA HC1
  clear k0 k1 k2 k3 k4 kf a0 a1 a2 a3 a4 a5 a6 a7 a8 a9 a10 af hdW
  obtain ⟨k0, k1, k2, k3, k4, kf⟩ := desk_cells hd1.blk
  obtain ⟨a0, a1, a2, a3, a4, a5, a6, a7, a8, a9, a10, af⟩ := deed_cells hA1
  have hdW : d.dp < w1.heap.size := hd1.lt
  have NX : ¬ footY d.q d.ys d.dp := hd1.nY
  have NA : ¬ footY d.q d.ys w.heap.size := HFY.out
  have HC1 : Hid (∀ W', Below w1.heap.size w1 W' → Calls Try.prog 85 #[.pointer (some ⟨d.q, 0, none⟩), .int .i64 x.k, .int .i64 x.keep] W' fun e w' => e = .returned rv ∧ YStep w1 w' { d with js := d.js, FX := F1, Dx := if x.k < 0 then d.Dx else { d.Dx with due := x.k.toNat, keep := x.keep }, Lx := d.Lx, col := col1 } w.heap.size (if x.k < 0 then d.Dx else { d.Dx with due := x.k.toNat, keep := x.keep }) (d.Lx) d.ys) := by
    intro W' hW'
    rw [HRV.out]
    have e1 := HR.out.D
    have e2 := HR.out.L
    have hpy := (hd1.grown hW').py
    simp only at hpy
    rw [e1, e2] at hpy
    exact (yBreak W' d.q d.ys d.Dx d.Lx hpy x.k x.keep HX.out.k0.2 HX.out.p0).mono fun e w' h => ⟨h.1, ystep hd1 hz1 hW' h.2⟩
  clear hd1 hA1 ht1
  go_wp2_with fail
  go_region_held3 (fun w' => w'.cell? ⟨d.dp, 1, none⟩ = some (.pointer (some ⟨d.q, 0, none⟩)) ∧ w'.cell? ⟨w.heap.size, 1, none⟩ = some (.int .i64 x.k) ∧ w'.cell? ⟨w.heap.size, 2, none⟩ = some (.int .i64 x.keep)) (go_keep)
    (first | (
      go_at_call 85
      refine (HC1.out _ (by repeat (first | exact Below.refl _ _ | assumption | with_reducible refine below_drewN ?_ _ | refine Gr.ext ?_ _ | refine Gr.alloc ?_ _ | refine Gr.drew ?_ | (refine Gr.set ?_ (by first | (simp; done) | (simp; omega)) _)))).mono ?_
      rintro e w2 ⟨rfl, hw2⟩
      have i0 := tcellAt hw2.2.2 hdW NX k1
      have i10 := tcellAt hw2.2.2 hz1 NA a1
      have i20 := tcellAt hw2.2.2 hz1 NA a2))
  obtain ⟨⟨col2, hd2⟩, hz2, ht2⟩ := hw2
  have HD2 : Hid (DAt w2 { d with js := d.js, ys := d.ys, FX := F1, Dx := if x.k < 0 then d.Dx else { d.Dx with due := x.k.toNat, keep := x.keep }, Dy := if x.k < 0 then d.Dx else { d.Dx with due := x.k.toNat, keep := x.keep }, Lx := d.Lx, Ly := d.Lx, col := col2 }) := hd2
  clear i0 i10 i20 NX NA HC1 hd2 ht2
  clear k0 k1 k2 k3 k4 kf a0 a1 a2 a3 a4 a5 a6 a7 a8 a9 a10 af hdW
  have hrv : ∃ n, rv = .int .i64 n := ⟨_, HRV.out⟩
  obtain ⟨n, rfl⟩ := hrv
  clear HRV
  go_wp2_with fail
  go_ret
  exact deedOut_mk (d := d) HD2.out ⟨HR.out.jx, HR.out.yx, HR.out.len, rfl, rfl, (by dsimp only; split; exact HR.out.calm; exact HR.out.calm.due _ _), (by dsimp only; split; exact HR.out.le; exact HR.out.le.due _ _), HR.out.m0, HR.out.jl⟩ rfl rfl (by show d.n ≤ d.n + 4; omega)
set_option maxRecDepth 100000 in
set_option maxHeartbeats 8000000 in
theorem deedCrash (w : World) (d : DD) (m b : Nat) (h : DAt w d) (hr : Rdy d m) (hm : m ≤ 100000000) (x : DeedV) (hx : x.ok d.w0 b) (hk : x.kind = 6) :
    Calls Try.prog 38 #[.pointer (some ⟨d.dp, 0, none⟩), .agg x.cells.toArray] w (DeedOut d.w0 d.dp (d.n + 4) m) := by
  have H : Hid (DAt w d) := h
  have HR : Hid (Rdy d m) := hr
  have HX : Hid (x.ok d.w0 b) := hx
  have HMM : Hid (m ≤ 100000000) := hm
  obtain ⟨c0, c1, c2, c3, c4, cf⟩ := desk_cells h.blk
  have hdp := h.lt
  clear h hr hx hm
  unfold DeedV.cells
  rw [hk]
  clear hk
  go_enter Try.func38, Try.ntmps38
  go_wp2_with fail
  refine world_any (F := fun W => Below w.heap.size w W ∧ W.heap[w.heap.size]? = some (.cells #[.int .i64 6, .int .i64 x.k, .int .i64 x.keep, .slice x.ra x.rs.length x.rc, .int .i64 x.S.gen, .int .i64 x.S.term, .int .i64 x.S.vote, .int .i64 x.S.base, .int .i64 x.S.bterm, .string x.S.data, .slice x.la x.S.log.length x.lc] 92)) ⟨(by repeat (first | exact Below.refl _ _ | assumption | with_reducible refine below_drewN ?_ _ | refine Gr.ext ?_ _ | refine Gr.alloc ?_ _ | refine Gr.drew ?_ | (refine Gr.set ?_ (by first | (simp; done) | (simp; omega)) _))), Hp.new rfl⟩ ?_
  rintro W ⟨hbW, hWa⟩
  have HBW : Hid (Below w.heap.size w W) := hbW
  have HWA : Hid (W.heap[w.heap.size]? = some (.cells #[.int .i64 6, .int .i64 x.k, .int .i64 x.keep, .slice x.ra x.rs.length x.rc, .int .i64 x.S.gen, .int .i64 x.S.term, .int .i64 x.S.vote, .int .i64 x.S.base, .int .i64 x.S.bterm, .string x.S.data, .slice x.la x.S.log.length x.lc] 92)) := hWa
  have HW : Hid (DAt W d) := H.out.grown hbW
  clear c0 c1 c2 c3 c4 cf
  obtain ⟨k0, k1, k2, k3, k4, kf⟩ := desk_cells HW.out.blk
  obtain ⟨a0, a1, a2, a3, a4, a5, a6, a7, a8, a9, a10, af⟩ := deed_cells hWa
  have hal : w.heap.size < W.heap.size := (Array.getElem?_eq_some_iff.1 hWa).1
  have hdW : d.dp < W.heap.size := HW.out.lt
  have HFX : Hid (¬ d.FX w.heap.size) := fun e => by have := H.out.px.lt _ e; omega
  have HFY : Hid (¬ footY d.q d.ys w.heap.size) := fun e => by have := H.out.py.lt e; omega
  clear hbW hWa
  have HC1 : Hid (∀ W', Below W.heap.size W W' → Calls Try.prog 44 #[.pointer (some ⟨d.p, 0, none⟩), .int .i64 x.keep] W' fun e w' => e = .returned (.tuple #[]) ∧ XStep W w' d w.heap.size (d.Dx.crash x.keep) (none) d.js) := fun W' hW' =>
    (xCrash W' d.p d.js d.FX d.Dx d.Lx (HW.out.grown hW').px x.keep HX.out.p0.1 HX.out.p0.2).mono fun e w' h => ⟨h.1, xstep HW.out hal hW' h.2⟩
  have NX : ¬ d.FX d.dp := H.out.nX
  have NA : ¬ d.FX w.heap.size := HFX.out
  obtain ⟨rv, hrv⟩ : ∃ v : Value, v = (.tuple #[]) := ⟨_, rfl⟩
  have HRV : Hid (rv = (.tuple #[])) := hrv
  rw [← hrv] at HC1
  clear hrv
  go_wp2_with fail
  go_region_held3 (fun w' => w'.cell? ⟨d.dp, 0, none⟩ = some (.pointer (some ⟨d.p, 0, none⟩)) ∧ w'.cell? ⟨w.heap.size, 2, none⟩ = some (.int .i64 x.keep)) (go_keep)
    (first | (
      go_at_call 44
      refine (HC1.out _ (by repeat (first | exact Below.refl _ _ | assumption | with_reducible refine below_drewN ?_ _ | refine Gr.ext ?_ _ | refine Gr.alloc ?_ _ | refine Gr.drew ?_ | (refine Gr.set ?_ (by first | (simp; done) | (simp; omega)) _)))).mono ?_
      rintro e w1 ⟨rfl, hw1⟩
      have i0 := tcellAt hw1.2.2 hdW NX k0
      have i20 := tcellAt hw1.2.2 hal NA a2))
  obtain ⟨⟨F1, col1, hd1⟩, hz1, ht1⟩ := hw1
  have HD1 : Hid (DAt w1 { d with js := d.js, FX := F1, Dx := d.Dx.crash x.keep, Lx := none, col := col1 }) := hd1
  have hA1 : w1.heap[w.heap.size]? = some (.cells #[.int .i64 6, .int .i64 x.k, .int .i64 x.keep, .slice x.ra x.rs.length x.rc, .int .i64 x.S.gen, .int .i64 x.S.term, .int .i64 x.S.vote, .int .i64 x.S.base, .int .i64 x.S.bterm, .string x.S.data, .slice x.la x.S.log.length x.lc] 92) := (ht1.block _ hal NA).trans HWA.out
  clear i0 i20 NX NA HC1
  clear k0 k1 k2 k3 k4 kf a0 a1 a2 a3 a4 a5 a6 a7 a8 a9 a10 af hdW
  obtain ⟨k0, k1, k2, k3, k4, kf⟩ := desk_cells hd1.blk
  obtain ⟨a0, a1, a2, a3, a4, a5, a6, a7, a8, a9, a10, af⟩ := deed_cells hA1
  have hdW : d.dp < w1.heap.size := hd1.lt
  have NX : ¬ footY d.q d.ys d.dp := hd1.nY
  have NA : ¬ footY d.q d.ys w.heap.size := HFY.out
  have HC1 : Hid (∀ W', Below w1.heap.size w1 W' → Calls Try.prog 86 #[.pointer (some ⟨d.q, 0, none⟩), .int .i64 x.keep] W' fun e w' => e = .returned rv ∧ YStep w1 w' { d with js := d.js, FX := F1, Dx := d.Dx.crash x.keep, Lx := none, col := col1 } w.heap.size (d.Dx.crash x.keep) (none) d.ys) := by
    intro W' hW'
    rw [HRV.out]
    have e1 := HR.out.D
    have e2 := HR.out.L
    have hpy := (hd1.grown hW').py
    simp only at hpy
    rw [e1, e2] at hpy
    exact (yCrash W' d.q d.ys d.Dx d.Lx hpy m HR.out.le HMM.out x.keep HX.out.p0).mono fun e w' h => ⟨h.1, ystep hd1 hz1 hW' h.2⟩
  clear hd1 hA1 ht1
  go_wp2_with fail
  go_region_held3 (fun w' => w'.cell? ⟨d.dp, 1, none⟩ = some (.pointer (some ⟨d.q, 0, none⟩)) ∧ w'.cell? ⟨w.heap.size, 2, none⟩ = some (.int .i64 x.keep)) (go_keep)
    (first | (
      go_at_call 86
      refine (HC1.out _ (by repeat (first | exact Below.refl _ _ | assumption | with_reducible refine below_drewN ?_ _ | refine Gr.ext ?_ _ | refine Gr.alloc ?_ _ | refine Gr.drew ?_ | (refine Gr.set ?_ (by first | (simp; done) | (simp; omega)) _)))).mono ?_
      rintro e w2 ⟨rfl, hw2⟩
      have i0 := tcellAt hw2.2.2 hdW NX k1
      have i20 := tcellAt hw2.2.2 hz1 NA a2))
  obtain ⟨⟨col2, hd2⟩, hz2, ht2⟩ := hw2
  have HD2 : Hid (DAt w2 { d with js := d.js, ys := d.ys, FX := F1, Dx := d.Dx.crash x.keep, Dy := d.Dx.crash x.keep, Lx := none, Ly := none, col := col2 }) := hd2
  clear i0 i20 NX NA HC1 hd2 ht2
  clear k0 k1 k2 k3 k4 kf a0 a1 a2 a3 a4 a5 a6 a7 a8 a9 a10 af hdW
  have hrv := HRV.out
  go_wp2_with fail
  go_ret
  exact deedOut_mk (d := d) HD2.out ⟨HR.out.jx, HR.out.yx, HR.out.len, rfl, rfl, HR.out.calm.fit.crash _, HR.out.le.crash _, HR.out.m0, HR.out.jl⟩ rfl rfl (by show d.n ≤ d.n + 4; omega)
end Go.Proofs.Ytcbbnmodjnnbeaa
/- The law on journals: deeds at the disk: File, Open. -/
set_option linter.unusedSimpArgs false
set_option linter.unusedVariables false
namespace Go.Proofs.Ytcbbnmodjnnbeaa
open Go.RowKit

set_option maxRecDepth 100000 in
set_option maxHeartbeats 8000000 in
theorem deedFile (w : World) (d : DD) (m b : Nat) (h : DAt w d) (hr : Rdy d m) (hm : m ≤ 100000000) (x : DeedV) (hx : x.ok d.w0 b) (hk : x.kind = 7) :
    Calls Try.prog 38 #[.pointer (some ⟨d.dp, 0, none⟩), .agg x.cells.toArray] w (DeedOut d.w0 d.dp (d.n + 4) m) := by
  have H : Hid (DAt w d) := h
  have HR : Hid (Rdy d m) := hr
  have HX : Hid (x.ok d.w0 b) := hx
  have HMM : Hid (m ≤ 100000000) := hm
  obtain ⟨c0, c1, c2, c3, c4, cf⟩ := desk_cells h.blk
  have hdp := h.lt
  clear h hr hx hm
  unfold DeedV.cells
  rw [hk]
  clear hk
  go_enter Try.func38, Try.ntmps38
  go_wp2_with fail
  refine world_any (F := fun W => Below w.heap.size w W ∧ W.heap[w.heap.size]? = some (.cells #[.int .i64 7, .int .i64 x.k, .int .i64 x.keep, .slice x.ra x.rs.length x.rc, .int .i64 x.S.gen, .int .i64 x.S.term, .int .i64 x.S.vote, .int .i64 x.S.base, .int .i64 x.S.bterm, .string x.S.data, .slice x.la x.S.log.length x.lc] 92)) ⟨(by repeat (first | exact Below.refl _ _ | assumption | with_reducible refine below_drewN ?_ _ | refine Gr.ext ?_ _ | refine Gr.alloc ?_ _ | refine Gr.drew ?_ | (refine Gr.set ?_ (by first | (simp; done) | (simp; omega)) _))), Hp.new rfl⟩ ?_
  rintro W ⟨hbW, hWa⟩
  have HBW : Hid (Below w.heap.size w W) := hbW
  have HWA : Hid (W.heap[w.heap.size]? = some (.cells #[.int .i64 7, .int .i64 x.k, .int .i64 x.keep, .slice x.ra x.rs.length x.rc, .int .i64 x.S.gen, .int .i64 x.S.term, .int .i64 x.S.vote, .int .i64 x.S.base, .int .i64 x.S.bterm, .string x.S.data, .slice x.la x.S.log.length x.lc] 92)) := hWa
  have HW : Hid (DAt W d) := H.out.grown hbW
  clear c0 c1 c2 c3 c4 cf
  obtain ⟨k0, k1, k2, k3, k4, kf⟩ := desk_cells HW.out.blk
  obtain ⟨a0, a1, a2, a3, a4, a5, a6, a7, a8, a9, a10, af⟩ := deed_cells hWa
  have hal : w.heap.size < W.heap.size := (Array.getElem?_eq_some_iff.1 hWa).1
  have hdW : d.dp < W.heap.size := HW.out.lt
  have HFX : Hid (¬ d.FX w.heap.size) := fun e => by have := H.out.px.lt _ e; omega
  have HFY : Hid (¬ footY d.q d.ys w.heap.size) := fun e => by have := H.out.py.lt e; omega
  clear hbW hWa
  obtain ⟨sv, hsv⟩ : ∃ s : ByteArray, s = (if x.k = 0 then B d.Dx.b0 else if x.k = 1 then B d.Dx.b1 else ⟨#[]⟩) := ⟨_, rfl⟩
  obtain ⟨ev, hev⟩ : ∃ n : Int, n = (if x.k = 0 ∨ x.k = 1 then 0 else 7) := ⟨_, rfl⟩
  have HSV : Hid (sv = (if x.k = 0 then B d.Dx.b0 else if x.k = 1 then B d.Dx.b1 else ⟨#[]⟩) ∧ ev = (if x.k = 0 ∨ x.k = 1 then 0 else 7)) := ⟨hsv, hev⟩
  clear hsv hev
  have HC1 : Hid (∀ W', Below W.heap.size W W' → Calls Try.prog 87 #[.pointer (some ⟨d.p, 0, none⟩), .int .i64 x.k] W' fun e w' => e = .returned (.tuple #[.string sv, .int .i64 ev]) ∧ Below W.heap.size W w') := fun W' hW' => by
    rw [HSV.out.1, HSV.out.2]
    exact (xFile W' d.p d.js d.FX d.Dx d.Lx (HW.out.grown hW').px m HR.out.le HMM.out x.k).mono fun e w' h => ⟨h.1, belowVia h.2 hW'⟩
  have HC2 : Hid (∀ W', Below W.heap.size W W' → Calls Try.prog 88 #[.pointer (some ⟨d.q, 0, none⟩), .int .i64 x.k] W' fun e w' => e = .returned (.tuple #[.string sv, .int .i64 ev]) ∧ Below W.heap.size W w') := fun W' hW' => by
    have hpy := (HW.out.grown hW').py
    rw [HR.out.D] at hpy
    rw [HSV.out.1, HSV.out.2]
    exact (yFile W' d.q d.ys d.Dx d.Ly hpy x.k).mono fun e w' h => ⟨h.1, belowVia h.2 hW'⟩
  go_wp2_with fail
  go_region_held3 (fun w' => w'.cell? ⟨d.dp, 0, none⟩ = some (.pointer (some ⟨d.p, 0, none⟩)) ∧ w'.cell? ⟨w.heap.size, 1, none⟩ = some (.int .i64 x.k)) (go_keep)
    (first | (
      go_at_call 87
      refine (HC1.out _ (by repeat (first | exact Below.refl _ _ | assumption | with_reducible refine below_drewN ?_ _ | refine Gr.ext ?_ _ | refine Gr.alloc ?_ _ | refine Gr.drew ?_ | (refine Gr.set ?_ (by first | (simp; done) | (simp; omega)) _)))).mono ?_
      rintro e w1 ⟨rfl, hb1⟩
      have i0 := bcellAt hb1 hdW k0
      have i1 := bcellAt hb1 hal a1))
  have HB1 : Hid (Below W.heap.size W w1) := hb1
  have hD1 := (HW.out.grown hb1).blk
  have hA1 := (hb1.block _ hal).trans HWA.out
  have hal1 : w.heap.size < w1.heap.size := by have := hb1.size; omega
  clear i0 i1 HC1
  clear k0 k1 k2 k3 k4 kf a0 a1 a2 a3 a4 a5 a6 a7 a8 a9 a10 af hdW
  obtain ⟨k0, k1, k2, k3, k4, kf⟩ := desk_cells hD1
  obtain ⟨a0, a1, a2, a3, a4, a5, a6, a7, a8, a9, a10, af⟩ := deed_cells hA1
  have hdW : d.dp < w1.heap.size := (HW.out.grown hb1).lt
  clear hD1 hA1
  go_wp2_with fail
  go_region_held3 (fun w' => w'.cell? ⟨d.dp, 1, none⟩ = some (.pointer (some ⟨d.q, 0, none⟩)) ∧ w'.cell? ⟨w.heap.size, 1, none⟩ = some (.int .i64 x.k)) (go_keep)
    (first | (
      go_at_call 88
      refine (HC2.out _ (belowVia ((by repeat (first | exact Below.refl _ _ | assumption | with_reducible refine below_drewN ?_ _ | refine Gr.ext ?_ _ | refine Gr.alloc ?_ _ | refine Gr.drew ?_ | (refine Gr.set ?_ (by first | (simp; done) | (simp; omega)) _)))) HB1.out)).mono ?_
      rintro e w2 ⟨rfl, hb2⟩
      have i0 := ((World.cell?_of_block (a := ⟨d.dp, 1, none⟩) (hb2.block d.dp HW.out.lt)).trans (desk_cells HW.out.blk).2.1)
      have i1 := ((World.cell?_of_block (a := ⟨w.heap.size, 1, none⟩) (hb2.block w.heap.size hal)).trans (deed_cells HWA.out).2.1)
))
  have HD2 : Hid (DAt w2 d) := HW.out.grown hb2
  clear i0 i1 HC2 hb2
  clear k0 k1 k2 k3 k4 kf a0 a1 a2 a3 a4 a5 a6 a7 a8 a9 a10 af hdW
  go_wp2_with fail
  go_ret
  exact deedOut_mk (d := d) HD2.out HR.out rfl rfl (by omega)
theorem wp_appendL {P : Program} {ops : Array Oper} {o : Oper} {a : Act} {w : World} {K : Act → World → Prop} {Q : Exit → Act → World → Prop} (hgd : o.guard = none) (sl xo : Operand) (t : TypeId)
    (ho : o.op = .call { callee := .builtin .append, args := #[sl, xo], argTypes := #[t, t] }) (e : TypeId) (sz by_ : Nat) (z : Value) (ht : P.underlying t = some (.slice e)) (hinfo : (P.info? e).map (fun i => (i.zero, i.size, i.bytes)) = some (some z, sz, by_)) (hz : z.cells.size = sz) (hsz : 0 < sz)
    (v : Value) (cs : List (List Value)) (n : Nat) (hn : cs.length = n) (hv : a.eval sl = v) (hown : w.ownL e sz v cs)
    (c : Array Value) (b : Nat) (hx : a.eval xo = .slice (some ⟨b, 0, none⟩) 1 1) (hc : w.heap[b]? = some (.cells c e)) (hcl : c.size = sz) (h1 : ∀ u ∈ c.toList, u.oneCell' = true) (hlen : n + 1 ≤ maxLen) (hby : (n + 1) * by_ ≤ 140737488355328)
    (h : ∀ a' cap' w', w'.ownL e sz (.slice a' (n + 1) cap') (cs ++ [c.toList]) → Grew w w' v (.slice a' (n + 1) cap') → ((Value.slice a' (n + 1) cap').ownBlock = v.ownBlock ∨ Below w.heap.size w w') → K (a.put o.dst (.slice a' (n + 1) cap')) w') : Oper.wp P o a w K Q := by
  have h0 := step_appendL (P := P) (ops := ops) (E := True) (Q := Q) hgd sl xo t ho e sz by_ z ht hinfo hz hsz v cs n hn hv hown c b hx hc hcl h1 hlen hby h
  rwa [if_pos (by simp [Region.wanted, hgd])] at h0
theorem infoWX : (Try.prog.info? 101).map (fun i => (i.zero, i.size, i.bytes)) = some (some (.pointer none), 1, 8) := by kernel_rfl
theorem infoWY : (Try.prog.info? 168).map (fun i => (i.zero, i.size, i.bytes)) = some (some (.pointer none), 1, 8) := by kernel_rfl
theorem ptr_one (b : Nat) : ∀ u ∈ (#[.pointer (some ⟨b, 0, none⟩)] : Array Value).toList, u.oneCell' = true := fun u hu => by
  have : u = .pointer (some ⟨b, 0, none⟩) := by simpa using hu
  subst this; rfl
theorem map_snoc (l : List Nat) (b : Nat) : l.map ptrC ++ [[Value.pointer (some ⟨b, 0, none⟩)]] = (l ++ [b]).map ptrC := by simp [ptrC]
set_option maxRecDepth 100000 in
set_option maxHeartbeats 8000000 in
theorem deedOpen (w : World) (d : DD) (m b : Nat) (h : DAt w d) (hr : Rdy d m) (hm : m ≤ 100000000) (x : DeedV) (hx : x.ok d.w0 b) (hk : x.kind = 1) (hn : d.n ≤ 100000000) :
    Calls Try.prog 38 #[.pointer (some ⟨d.dp, 0, none⟩), .agg x.cells.toArray] w (DeedOut d.w0 d.dp (d.n + 4) m) := by
  have H : Hid (DAt w d) := h
  have HR : Hid (Rdy d m) := hr
  have HX : Hid (x.ok d.w0 b) := hx
  have HMM : Hid (m ≤ 100000000) := hm
  obtain ⟨c0, c1, c2, c3, c4, cf⟩ := desk_cells h.blk
  have hdp := h.lt
  clear h hr hx hm
  unfold DeedV.cells
  rw [hk]
  clear hk
  go_enter Try.func38, Try.ntmps38
  go_wp2_with fail
  obtain ⟨W, hWeq⟩ : ∃ W, W = w.alloc (.cells #[.int .i64 1, .int .i64 x.k, .int .i64 x.keep, .slice x.ra x.rs.length x.rc, .int .i64 x.S.gen, .int .i64 x.S.term, .int .i64 x.S.vote, .int .i64 x.S.base, .int .i64 x.S.bterm, .string x.S.data, .slice x.la x.S.log.length x.lc] 92) := ⟨_, rfl⟩
  rw [← hWeq]
  have hbW : Below w.heap.size w W := by rw [hWeq]; exact (by repeat (first | exact Below.refl _ _ | assumption | with_reducible refine below_drewN ?_ _ | refine Gr.ext ?_ _ | refine Gr.alloc ?_ _ | refine Gr.drew ?_ | (refine Gr.set ?_ (by first | (simp; done) | (simp; omega)) _)))
  have hWa : W.heap[w.heap.size]? = some (.cells #[.int .i64 1, .int .i64 x.k, .int .i64 x.keep, .slice x.ra x.rs.length x.rc, .int .i64 x.S.gen, .int .i64 x.S.term, .int .i64 x.S.vote, .int .i64 x.S.base, .int .i64 x.S.bterm, .string x.S.data, .slice x.la x.S.log.length x.lc] 92) := by rw [hWeq]; exact Hp.new rfl
  clear hWeq
  have HBW : Hid (Below w.heap.size w W) := hbW
  have HWA : Hid (W.heap[w.heap.size]? = some (.cells #[.int .i64 1, .int .i64 x.k, .int .i64 x.keep, .slice x.ra x.rs.length x.rc, .int .i64 x.S.gen, .int .i64 x.S.term, .int .i64 x.S.vote, .int .i64 x.S.base, .int .i64 x.S.bterm, .string x.S.data, .slice x.la x.S.log.length x.lc] 92)) := hWa
  have HW : Hid (DAt W d) := H.out.grown hbW
  clear c0 c1 c2 c3 c4 cf
  obtain ⟨k0, k1, k2, k3, k4, kf⟩ := desk_cells HW.out.blk
  obtain ⟨a0, a1, a2, a3, a4, a5, a6, a7, a8, a9, a10, af⟩ := deed_cells hWa
  have hal : w.heap.size < W.heap.size := (Array.getElem?_eq_some_iff.1 hWa).1
  have hdW : d.dp < W.heap.size := HW.out.lt
  have HFX : Hid (¬ d.FX w.heap.size) := fun e => by have := H.out.px.lt _ e; omega
  have HFY : Hid (¬ footY d.q d.ys w.heap.size) := fun e => by have := H.out.py.lt e; omega
  clear hbW hWa
  have hjl : d.jx.length ≤ 100000000 := by rw [HR.out.jx]; have := HR.out.jl; omega
  have hyl : d.yx.length ≤ 100000000 := by rw [HR.out.yx, HR.out.len]; have := HR.out.jl; omega
  have HJL : Hid (d.jx.length ≤ 100000000 ∧ d.yx.length ≤ 100000000) := ⟨hjl, hyl⟩
  have HC1 : Hid (∀ W', Below W.heap.size W W' → Calls Try.prog 40 #[.pointer (some ⟨d.p, 0, none⟩)] W' fun e w' => ∃ j, e = .returned (.tuple #[.pointer (some ⟨j, 0, none⟩), .int .i64 0]) ∧ XStep W w' d w.heap.size d.Dx.opened (some (d.Dx.found.1, told d.Dx.found.2)) (d.js ++ [j])) := fun W' hW' =>
    (xOpen W' d.p d.js d.FX d.Dx d.Lx (HW.out.grown hW').px HR.out.calm m HR.out.le HMM.out HR.out.m0).mono fun e w' ⟨j, h1, _, h2⟩ => ⟨j, h1, xstep HW.out hal hW' h2⟩
  clear hjl hyl hn
  refine (HC1.out _ (by repeat (first | exact Below.refl _ _ | assumption | with_reducible refine below_drewN ?_ _ | refine Gr.ext ?_ _ | refine Gr.alloc ?_ _ | refine Gr.drew ?_ | (refine Gr.set ?_ (by first | (simp; done) | (simp; omega)) _)))).mono ?_
  rintro e w1 ⟨j, rfl, hw1⟩
  obtain ⟨⟨F1, col1, hd1⟩, hz1, ht1⟩ := hw1
  have HD1 : Hid (DAt w1 { d with js := d.js ++ [j], FX := F1, Dx := d.Dx.opened, Lx := some (d.Dx.found.1, told d.Dx.found.2), col := col1 }) := hd1
  clear HC1
  clear k0 k1 k2 k3 k4 kf a0 a1 a2 a3 a4 a5 a6 a7 a8 a9 a10 af hdW
  obtain ⟨k0, k1, k2, k3, k4, kf⟩ := desk_cells hd1.blk
  have hdW : d.dp < w1.heap.size := hd1.lt
  clear hd1 ht1
  go_wp2_with (at_builtin; refine Held.out ?_)
  unfold Held
  refine wpL_new rfl _ _ 95 rfl 101 1 8 _ Try.underlying95 infoWX rfl (by decide) d.xv (d.jx.map ptrC) rfl (HD1.out.ox.alloc _) #[.pointer (some ⟨j, 0, none⟩)] w1.heap.size rfl (heap_alloc_new w1 _) rfl (ptr_one j) (by rw [List.length_map]; unfold maxLen; have := HJL.out.1; omega) (by rw [List.length_map]; have := HJL.out.1; omega) ?_
  intro xa xc w2 ho2 hg2 _
  obtain ⟨N1, hN1⟩ : ∃ n, n = (d.jx.map ptrC).length + 1 := ⟨_, rfl⟩
  rw [← hN1] at ho2 hg2 ⊢
  have ho2' : w2.ownL 101 1 (.slice xa N1 xc) ((d.jx ++ [j]).map ptrC) := by rw [← map_snoc]; exact ho2
  have hdA := HD1.out.grown (Gr.alloc (Below.refl w1.heap.size w1) (.cells #[.pointer (some ⟨j, 0, none⟩)] 101))
  obtain ⟨col2, hd2⟩ := hdA.lx hg2 ho2'
  have HD2 : Hid (DAt (w2.setCell ⟨d.dp, 2, none⟩ (.slice xa N1 xc)) { d with xv := .slice xa N1 xc, jx := d.jx ++ [j], js := d.js ++ [j], FX := F1, Dx := d.Dx.opened, Lx := some (d.Dx.found.1, told d.Dx.found.2), col := col2 }) := hd2
  have hxn : d.xv.ownBlock ≠ some d.dp := fun e => by have a := hdA.c1 _ e; have b := hdA.c0; dsimp only at a b; omega
  have hblk2 := (hg2.keep hdA.lt hxn).trans hdA.blk
  have hz2 : w.heap.size < w2.heap.size := by have := hg2.g.size; simp at this; omega
  clear k0 k1 k2 k3 k4 kf ho2 ho2' hg2 hdA hd2 hxn hN1
  obtain ⟨k0, k1, k2, k3, k4, kf⟩ := desk_cells hblk2
  have hdW2 : d.dp < w2.heap.size := (Array.getElem?_eq_some_iff.1 hblk2).1
  clear hblk2
  go_wp2_with fail
  refine world_any (F := fun W => DAt W { d with xv := .slice xa N1 xc, jx := d.jx ++ [j], js := d.js ++ [j], FX := F1, Dx := d.Dx.opened, Lx := some (d.Dx.found.1, told d.Dx.found.2), col := col2 }) HD2.out ?_
  rintro W5 hW5
  have HW5 : Hid (DAt W5 { d with xv := .slice xa N1 xc, jx := d.jx ++ [j], js := d.js ++ [j], FX := F1, Dx := d.Dx.opened, Lx := some (d.Dx.found.1, told d.Dx.found.2), col := col2 }) := hW5
  clear k0 k1 k2 k3 k4 kf hdW2 HD2
  obtain ⟨k0, k1, k2, k3, k4, kf⟩ := desk_cells hW5.blk
  have hdW5 : d.dp < W5.heap.size := hW5.lt
  clear hW5
  have HY1 : Hid (Calls Try.prog 83 #[.pointer (some ⟨d.q, 0, none⟩)] W5.drew fun e w' => ∃ b9, e = .returned (.pointer (some ⟨b9, 0, none⟩)) ∧ ∃ col3, DAt w' { d with xv := .slice xa N1 xc, jx := d.jx ++ [j], js := d.js ++ [j], ys := d.ys ++ [b9], FX := F1, Dx := d.Dx.opened, Dy := d.Dx.opened, Lx := some (d.Dx.found.1, told d.Dx.found.2), Ly := some (d.Dx.found.1, told d.Dx.found.2), col := col3 } ∧ w'.cell? ⟨d.dp, 3, none⟩ = some d.yv) := by
    have hp := (HW5.out.grown (Gr.drew (Below.refl W5.heap.size W5))).py
    have e1 := HR.out.D
    have e2 := HR.out.L
    simp only at hp
    rw [e1, e2] at hp
    refine (yOpen W5.drew d.q d.ys d.Dx d.Lx hp HR.out.calm m HR.out.le HMM.out (by have := HJL.out.2; rw [HR.out.yx] at this; exact this)).mono ?_
    rintro e w' ⟨b9, rfl, hb, hpy, ht⟩
    obtain ⟨col3, h3⟩ := (HW5.out.grown (Gr.drew (Below.refl W5.heap.size W5))).y hpy (fun x hx => by
      rcases hx with hx | hx
      · exact .inl (.inl hx)
      · rcases List.mem_append.1 hx with hx | hx
        · exact .inl (.inr hx)
        · rw [List.mem_singleton.1 hx]; exact .inr hb) ht
    exact ⟨b9, rfl, col3, h3, (desk_cells h3.blk).2.2.2.1⟩
  go_wp2_with fail
  refine wp_region_until (fun w' => w'.cell? ⟨d.dp, 3, none⟩ = some d.yv ∧ w'.cell? ⟨d.dp, 1, none⟩ = some (.pointer (some ⟨d.q, 0, none⟩))) 14 (by kernel_rfl) ?_
  have HS0 : ((fun w' => w'.cell? ⟨d.dp, 3, none⟩ = some d.yv ∧ w'.cell? ⟨d.dp, 1, none⟩ = some (.pointer (some ⟨d.q, 0, none⟩))) : World → Prop) W5.drew := ⟨k3, k1⟩
  refine wpUntil.takeC (i := 0) (v := (.pointer (some ⟨d.dp, 0, none⟩))) [12, 13, 14] rfl (by kernel_rfl) (by kernel_rfl) (by kernel_rfl) (by kernel_rfl) (fun _ _ _ h => h) (Or.inl ⟨by rfl, fun w hSw => ?hy0⟩) HS0 ?_
  case hy0 => (try dsimp only at hSw); go_simp
  simp only [Act.put, List.getElem_toArray, List.getElem_cons_zero, List.getElem_cons_succ, List.setIfInBounds_toArray, List.set_cons_zero, List.set_cons_succ]
  refine wpUntil.takeC (i := 1) (v := (.pointer (some ⟨d.dp, 0, none⟩))) [2, 3, 4, 11, 14] rfl (by kernel_rfl) (by kernel_rfl) (by kernel_rfl) (by kernel_rfl) (fun _ _ _ h => h) (Or.inl ⟨by rfl, fun w hSw => ?hy1⟩) HS0 ?_
  case hy1 => (try dsimp only at hSw); go_simp
  simp only [Act.put, List.getElem_toArray, List.getElem_cons_zero, List.getElem_cons_succ, List.setIfInBounds_toArray, List.set_cons_zero, List.set_cons_succ]
  refine wpUntil.takeC (i := 2) (v := (.pointer (some ⟨d.dp, 0, none⟩))) [3, 4, 11, 14] rfl (by kernel_rfl) (by kernel_rfl) (by kernel_rfl) (by kernel_rfl) (fun _ _ _ h => h) (Or.inl ⟨by rfl, fun w hSw => ?hy2⟩) HS0 ?_
  case hy2 => (try dsimp only at hSw); go_simp
  simp only [Act.put, List.getElem_toArray, List.getElem_cons_zero, List.getElem_cons_succ, List.setIfInBounds_toArray, List.set_cons_zero, List.set_cons_succ]
  refine wpUntil.takeC (i := 3) (v := (.pointer (some ⟨d.dp, 3, none⟩))) [4, 11, 14] rfl (by kernel_rfl) (by kernel_rfl) (by kernel_rfl) (by kernel_rfl) (fun _ _ _ h => h) (Or.inl ⟨by rfl, fun w hSw => ?hy3⟩) HS0 ?_
  case hy3 => (try dsimp only at hSw); go_simp
  simp only [Act.put, List.getElem_toArray, List.getElem_cons_zero, List.getElem_cons_succ, List.setIfInBounds_toArray, List.set_cons_zero, List.set_cons_succ]
  refine wpUntil.takeC (i := 4) (v := d.yv) [11, 14] rfl (by kernel_rfl) (by kernel_rfl) (by kernel_rfl) (by kernel_rfl) (fun _ _ _ h => h) (Or.inl ⟨by rfl, fun w hSw => ?hy4⟩) HS0 ?_
  case hy4 => (try dsimp only at hSw); go_simp
  simp only [Act.put, List.getElem_toArray, List.getElem_cons_zero, List.getElem_cons_succ, List.setIfInBounds_toArray, List.set_cons_zero, List.set_cons_succ]
  refine wpUntil.takeC (i := 5) (v := (.pointer (some ⟨d.dp, 0, none⟩))) [6, 7, 8, 9, 10, 11, 14] rfl (by kernel_rfl) (by kernel_rfl) (by kernel_rfl) (by kernel_rfl) (fun _ _ _ h => h) (Or.inl ⟨by rfl, fun w hSw => ?hy5⟩) HS0 ?_
  case hy5 => (try dsimp only at hSw); go_simp
  simp only [Act.put, List.getElem_toArray, List.getElem_cons_zero, List.getElem_cons_succ, List.setIfInBounds_toArray, List.set_cons_zero, List.set_cons_succ]
  refine wpUntil.takeC (i := 6) (v := (.pointer (some ⟨d.dp, 0, none⟩))) [7, 8, 9, 10, 11, 14] rfl (by kernel_rfl) (by kernel_rfl) (by kernel_rfl) (by kernel_rfl) (fun _ _ _ h => h) (Or.inl ⟨by rfl, fun w hSw => ?hy6⟩) HS0 ?_
  case hy6 => (try dsimp only at hSw); go_simp
  simp only [Act.put, List.getElem_toArray, List.getElem_cons_zero, List.getElem_cons_succ, List.setIfInBounds_toArray, List.set_cons_zero, List.set_cons_succ]
  refine wpUntil.takeC (i := 7) (v := (.pointer (some ⟨d.dp, 1, none⟩))) [8, 9, 10, 11, 14] rfl (by kernel_rfl) (by kernel_rfl) (by kernel_rfl) (by kernel_rfl) (fun _ _ _ h => h) (Or.inl ⟨by rfl, fun w hSw => ?hy7⟩) HS0 ?_
  case hy7 => (try dsimp only at hSw); go_simp
  simp only [Act.put, List.getElem_toArray, List.getElem_cons_zero, List.getElem_cons_succ, List.setIfInBounds_toArray, List.set_cons_zero, List.set_cons_succ]
  refine wpUntil.takeC (i := 8) (v := (.pointer (some ⟨d.q, 0, none⟩))) [9, 10, 11, 14] rfl (by kernel_rfl) (by kernel_rfl) (by kernel_rfl) (by kernel_rfl) (fun _ _ _ h => h) (Or.inl ⟨by rfl, fun w hSw => ?hy8⟩) HS0 ?_
  case hy8 => (try dsimp only at hSw); go_simp
  simp only [Act.put, List.getElem_toArray, List.getElem_cons_zero, List.getElem_cons_succ, List.setIfInBounds_toArray, List.set_cons_zero, List.set_cons_succ]
  refine wpUntil.only (i := 9) rfl (by kernel_rfl) (by rfl) ?_
  simp only [Act.put, List.getElem_toArray, List.getElem_cons_zero, List.getElem_cons_succ, List.setIfInBounds_toArray, List.set_cons_zero, List.set_cons_succ]
  go_simp
  refine HY1.out.mono ?_
  rintro e w6 ⟨b9, rfl, col3, hd6, hc6⟩
  have HD6 : Hid (DAt w6 { d with xv := .slice xa N1 xc, jx := d.jx ++ [j], js := d.js ++ [j], ys := d.ys ++ [b9], FX := F1, Dx := d.Dx.opened, Dy := d.Dx.opened, Lx := some (d.Dx.found.1, told d.Dx.found.2), Ly := some (d.Dx.found.1, told d.Dx.found.2), col := col3 }) := hd6
  obtain ⟨g0, g1, g2, g3, g4, gf⟩ := desk_cells hd6.blk
  have hdW6 : d.dp < w6.heap.size := hd6.lt
  clear hd6 hc6 k0 k1 k2 k3 k4 kf HY1
  refine ⟨⟨g3, g1⟩, ?_⟩
  refine wpUntil.only (i := 10) rfl (by kernel_rfl) (by rfl) ?_
  simp only [Act.put, List.getElem_toArray, List.getElem_cons_zero, List.getElem_cons_succ, List.setIfInBounds_toArray, List.set_cons_zero, List.set_cons_succ]
  go_simp
  refine wpUntil.only (i := 11) rfl (by kernel_rfl) (by rfl) ?_
  simp only [Act.put, List.getElem_toArray, List.getElem_cons_zero, List.getElem_cons_succ, List.setIfInBounds_toArray, List.set_cons_zero, List.set_cons_succ]
  refine wp_appendL (ops := #[]) rfl _ _ 96 rfl 168 1 8 _ Try.underlying96 infoWY rfl (by decide) d.yv (d.yx.map ptrC) d.yx.length (List.length_map _) rfl (HD6.out.oy.alloc _) #[.pointer (some ⟨b9, 0, none⟩)] w6.heap.size rfl (heap_alloc_new w6 _) rfl (ptr_one b9) (by unfold maxLen; have := HJL.out.2; omega) (by have := HJL.out.2; omega) ?_
  intro ya yc w7 ho7 hg7 _
  obtain ⟨M1, hM1⟩ : ∃ n, n = d.yx.length + 1 := ⟨_, rfl⟩
  rw [← hM1] at ho7 hg7 ⊢
  have ho7' : w7.ownL 168 1 (.slice ya M1 yc) ((d.yx ++ [b9]).map ptrC) := by rw [← map_snoc]; exact ho7
  have hdA := HD6.out.grown (Gr.alloc (Below.refl w6.heap.size w6) (.cells #[.pointer (some ⟨b9, 0, none⟩)] 168))
  obtain ⟨col4, hd7⟩ := hdA.ly hg7 ho7'
  have HD7 : Hid (DAt (w7.setCell ⟨d.dp, 3, none⟩ (.slice ya M1 yc)) { d with xv := .slice xa N1 xc, yv := .slice ya M1 yc, jx := d.jx ++ [j], yx := d.yx ++ [b9], js := d.js ++ [j], ys := d.ys ++ [b9], FX := F1, Dx := d.Dx.opened, Dy := d.Dx.opened, Lx := some (d.Dx.found.1, told d.Dx.found.2), Ly := some (d.Dx.found.1, told d.Dx.found.2), col := col4 }) := hd7
  have hyn : d.yv.ownBlock ≠ some d.dp := fun e => by have a := hdA.c2 _ e; have b := hdA.c0; dsimp only at a b; omega
  have hblk7 := (hg7.keep hdA.lt hyn).trans hdA.blk
  clear g0 g1 g2 g3 g4 gf ho7 ho7' hg7 hdA hd7 hyn hM1
  obtain ⟨g0, g1, g2, g3, g4, gf⟩ := desk_cells hblk7
  have hdW7 : d.dp < w7.heap.size := (Array.getElem?_eq_some_iff.1 hblk7).1
  clear hblk7
  refine ⟨fun _ => ⟨g3, g1⟩, ?_⟩
  simp only [Act.put, List.getElem_toArray, List.getElem_cons_zero, List.getElem_cons_succ, List.setIfInBounds_toArray, List.set_cons_zero, List.set_cons_succ]
  refine wpUntil.only (i := 12) rfl (by kernel_rfl) (by rfl) ?_
  simp only [Act.put, List.getElem_toArray, List.getElem_cons_zero, List.getElem_cons_succ, List.setIfInBounds_toArray, List.set_cons_zero, List.set_cons_succ]
  go_simp
  refine wpUntil.only (i := 13) rfl (by kernel_rfl) (by rfl) ?_
  simp only [Act.put, List.getElem_toArray, List.getElem_cons_zero, List.getElem_cons_succ, List.setIfInBounds_toArray, List.set_cons_zero, List.set_cons_succ]
  go_simp
  refine wpUntil.only (i := 14) rfl (by kernel_rfl) (by rfl) ?_
  simp only [Act.put, List.getElem_toArray, List.getElem_cons_zero, List.getElem_cons_succ, List.setIfInBounds_toArray, List.set_cons_zero, List.set_cons_succ]
  go_simp
  refine ⟨by kernel_rfl, ?_⟩
  refine world_any (F := fun W => DAt W { d with xv := .slice xa N1 xc, yv := .slice ya M1 yc, jx := d.jx ++ [j], yx := d.yx ++ [b9], js := d.js ++ [j], ys := d.ys ++ [b9], FX := F1, Dx := d.Dx.opened, Dy := d.Dx.opened, Lx := some (d.Dx.found.1, told d.Dx.found.2), Ly := some (d.Dx.found.1, told d.Dx.found.2), col := col4 }) HD7.out ?_
  rintro W9 hW9
  go_wp2_with fail
  go_ret
  exact deedOut_mk (d := d) (hW9.up (n := d.n + 4) (by dsimp only; omega)) ⟨by show d.jx ++ [j] = d.js ++ [j]; rw [HR.out.jx], by show d.yx ++ [b9] = d.ys ++ [b9]; rw [HR.out.yx], by have := HR.out.len; simp [this], rfl, rfl, HR.out.calm.set _ _, HR.out.le.opened HR.out.m0, HR.out.m0, by have := HR.out.jl; simp; omega⟩ rfl rfl (by show d.n + 4 ≤ d.n + 4; omega)
end Go.Proofs.Ytcbbnmodjnnbeaa
