/- The law on stores: Range. -/
import Derived.Test.YtcbbnmodjnnbeaaStW4
import Derived.Test.YtcbbnmodjnnbeaaTab
import Derived.Test.YtcbbnmodjnnbeaaSess8
import Derived.Test.YtcbbnmodjnnbeaaRefW8
import Derived.Deep.RegionHeld3
set_option linter.unusedSimpArgs false
set_option linter.unusedVariables false
namespace Go.Proofs.Ytcbbnmodjnnbeaa
open Go.RowKit

theorem len_le_sum {α : Type} {f : α → Nat} : ∀ {ks : List α}, (∀ x ∈ ks, 1 ≤ f x) → ks.length ≤ (ks.map f).sum
  | [], _ => Nat.le_refl _
  | x :: ks, h => by
    have h1 := h x (by simp)
    have h2 := len_le_sum (ks := ks) fun y hy => h y (by simp [hy])
    simp only [List.length_cons, List.map_cons, List.sum_cons]; omega
theorem RangeIs.len_le {s : St} {lo hi : ByteArray} {rev : Int} {L : List Fnd} (h : RangeIs s lo hi rev L) (hB : Bnd s) : L.length ≤ s.rev := by
  have hnd : (L.map Fnd.key).Nodup := by
    rw [List.Nodup, List.pairwise_map]
    exact h.asc.imp fun {a b} hab e => by rw [e] at hab; exact absurd hab (List.lt_irrefl _)
  have h1 := hB.tot _ hnd
  have h2 : (L.map Fnd.key).length ≤ ((L.map Fnd.key).map fun k => (s.vers k).length).sum := len_le_sum fun k hk => by
    obtain ⟨f, hf, rfl⟩ := List.mem_map.1 hk
    obtain ⟨_, _, r, hl, _⟩ := (h.mem f).1 hf
    rcases Nat.eq_zero_or_pos (s.vers f.key).length with h0 | h0
    · rw [List.length_eq_zero_iff.1 h0] at hl; simp [look, atV, Ver.none] at hl
    · exact h0
  rw [List.length_map] at h2
  omega
theorem end_fnd {w W : World} {bp kb n p b : Nat} {D : DataW Value} {q : Nat} {vl : Value} {l : List KV} {s : St} (h : PairAt w bp p b D q vl l s) {vR vF : Value} {eR eF : List Ent} (hB : BookAt w kb vR vF eR eF n) (hPB : ∀ x, footP bp p b D q vl x → ¬ footBk kb vR vF eR eF x) (hn : n ≤ 900000000) (T : Below w.heap.size w W)
    {fs : List Fnd} {al : Option Addr} {c : Nat} (ho : W.ownL 131 3 (.slice al fs.length c) (fs.map Fnd.cells)) (hnew : ∀ x, (Value.slice al fs.length c).ownBlock = some x → w.heap.size ≤ x) (hf : fs.length ≤ 1000000) :
    Calls Try.prog 68 #[.pointer (some ⟨kb, 0, none⟩), .slice al fs.length c] W fun e w' => e = .returned (.tuple #[]) ∧ ActOut w bp kb n (footP bp p b D q vl) (footBk kb vR vF eR eF) (.returned (.bool true)) w' := by
  have hT : w.turned W (footP bp p b D q vl) := World.turned.of_below T _
  have hB7 : BookAt W kb vR vF eR eF n := hB.beside hT fun x hx hy => hPB x hy hx
  have hb := bookFnd W kb n vR vF eR eF hB7 al c (fs.map Fnd.cells)
  rw [List.length_map] at hb
  refine (hb ho (fun k hk hx => by have := hnew k hk; have := hB.foot_lt hx; omega) (by omega) hn).mono ?_
  rintro e w8 ⟨rfl, hOut⟩
  exact ⟨rfl, actOut_end h hB hPB hT (h.grown T) (fun x hx => .inl hx) (v := .slice al fs.length c) (fun x hx => ⟨hnew x hx, fun hx2 => by have := hnew x hx; have := h.foot_lt hx2; omega⟩) hOut⟩
set_option maxRecDepth 100000 in
set_option maxHeartbeats 8000000 in
theorem actRangeArg (w : World) (bp kb n p b : Nat) (D : DataW Value) (q : Nat) (vl : Value) (l : List KV) (s : St) (h : PairAt w bp p b D q vl l s) (vR vF : Value) (eR eF : List Ent) (hB : BookAt w kb vR vF eR eF n) (hPB : ∀ x, footP bp p b D q vl x → ¬ footBk kb vR vF eR eF x) (hn : n ≤ 900000000)
    (av : Option Addr) (al ac : Nat) (lo hi t : ByteArray) (rev most : Int) (hm : most < 0) :
    Calls Try.prog 27 #[.pointer (some ⟨bp, 0, none⟩), .agg #[.int .i64 2, .slice av al ac, .string lo, .string hi, .int .i64 rev, .int .i64 most, .string t], .pointer (some ⟨kb, 0, none⟩)] w (ActOut w bp kb n (footP bp p b D q vl) (footBk kb vR vF eR eF)) := by
  have H : Hid (PairAt w bp p b D q vl l s) := h
  have HBK : Hid (BookAt w kb vR vF eR eF n) := hB
  have HPB : Hid (∀ x, footP bp p b D q vl x → ¬ footBk kb vR vF eR eF x) := hPB
  have HN : Hid (n ≤ 900000000) := hn
  have hbp := h.lt
  clear h hB hPB hn
  go_enter Try.func27, Try.ntmps27
  have HX : Hid (∀ W, Below w.heap.size w W → Calls Try.prog 32 #[.pointer (some ⟨p, 0, none⟩), .string lo, .string hi, .int .i64 rev, .int .i64 most] W fun e w' => e = .returned (.tuple #[.slice none 0 0, .int .i64 2]) ∧ Below w.heap.size w w') := by
    intro W hW
    refine (storeRangeArg W p lo hi rev most hm).mono ?_
    rintro e w1 ⟨rfl, hb⟩
    exact ⟨rfl, below_via hb hW⟩
  have HA0 : Hid ((w.alloc (.cells #[.int .i64 2, .slice av al ac, .string lo, .string hi, .int .i64 rev, .int .i64 most, .string t] 61)).heap[w.heap.size]? = some (.cells #[.int .i64 2, .slice av al ac, .string lo, .string hi, .int .i64 rev, .int .i64 most, .string t] 61)) := heap_alloc_new _ _
  obtain ⟨k0, k1, kf⟩ := pair_cells H.out.blk
  go_wp2_with fail
  refine world_any (F := fun W => Below w.heap.size w W ∧ w.heap.size < W.heap.size ∧ W.heap[w.heap.size]? = some (.cells #[.int .i64 2, .slice av al ac, .string lo, .string hi, .int .i64 rev, .int .i64 most, .string t] 61)) ⟨(by repeat (first | exact Below.refl _ _ | assumption | with_reducible refine below_drewN ?_ _ | refine Gr.ext ?_ _ | refine Gr.alloc ?_ _ | refine Gr.drew ?_ | (refine Gr.set ?_ (by first | (simp; done) | (simp; omega)) _))), by simp, heap_alloc_new _ _⟩ ?_
  rintro W0 ⟨hb0, hz0, hA0⟩
  have HB0 : Hid (Below w.heap.size w W0) := hb0
  have HAW : Hid (W0.heap[w.heap.size]? = some (.cells #[.int .i64 2, .slice av al ac, .string lo, .string hi, .int .i64 rev, .int .i64 most, .string t] 61)) := hA0
  have hbp0 : bp < W0.heap.size := by omega
  obtain ⟨a0, a1, a2, a3, a4, a5, a6, af⟩ := ask_cells hA0
  clear k0 k1 kf
  obtain ⟨k0, k1, kf⟩ := pair_cells (H.out.grown hb0).blk
  have HX0 : Hid (∀ W, Below W0.heap.size W0 W → Calls Try.prog 32 #[.pointer (some ⟨p, 0, none⟩), .string lo, .string hi, .int .i64 rev, .int .i64 most] W fun e w' => e = .returned (.tuple #[.slice none 0 0, .int .i64 2]) ∧ Below W0.heap.size W0 w') := by
    intro W hW
    refine (storeRangeArg W p lo hi rev most hm).mono ?_
    rintro e w1 ⟨rfl, hb⟩
    exact ⟨rfl, below_via hb hW⟩
  clear hb0 hA0 HA0 HX
  go_region_held3 (fun w' => w'.cell? ⟨bp, 0, none⟩ = some (.pointer (some ⟨p, 0, none⟩)) ∧ w'.cell? ⟨w.heap.size, 2, none⟩ = some (.string lo) ∧ w'.cell? ⟨w.heap.size, 3, none⟩ = some (.string hi) ∧ w'.cell? ⟨w.heap.size, 4, none⟩ = some (.int .i64 rev) ∧ w'.cell? ⟨w.heap.size, 5, none⟩ = some (.int .i64 most)) (go_keep)
    (first | (
      go_at_call 32
      refine (HX0.out _ (by repeat (first | exact Below.refl _ _ | assumption | with_reducible refine below_drewN ?_ _ | refine Gr.ext ?_ _ | refine Gr.alloc ?_ _ | refine Gr.drew ?_ | (refine Gr.set ?_ (by first | (simp; done) | (simp; omega)) _)))).mono ?_
      rintro e w1 ⟨rfl, hb1⟩
      have e0 := (World.cell?_of_block (a := ⟨bp, 0, none⟩) (hb1.block bp hbp0)).trans k0
      have e2 := (World.cell?_of_block (a := ⟨w.heap.size, 2, none⟩) (hb1.block w.heap.size hz0)).trans a2
      have e3 := (World.cell?_of_block (a := ⟨w.heap.size, 3, none⟩) (hb1.block w.heap.size hz0)).trans a3
      have e4 := (World.cell?_of_block (a := ⟨w.heap.size, 4, none⟩) (hb1.block w.heap.size hz0)).trans a4
      have e5 := (World.cell?_of_block (a := ⟨w.heap.size, 5, none⟩) (hb1.block w.heap.size hz0)).trans a5))
  all_goals
    have hA1 := (hb1.block w.heap.size hz0).trans HAW.out
    have HB1 : Hid (Below w.heap.size w w1) := HB0.out.trans (hb1.mono HB0.out.size)
    have hz1 : w.heap.size < w1.heap.size := by have := hb1.size; omega
    have hbp1 : bp < w1.heap.size := by omega
    have HA1 : Hid (w1.heap[w.heap.size]? = some (.cells #[.int .i64 2, .slice av al ac, .string lo, .string hi, .int .i64 rev, .int .i64 most, .string t] 61)) := hA1
    clear a0 a1 a2 a3 a4 a5 a6 af k0 k1 kf HX0 hb1
    try clear e0 e2 e3 e4 e5
    obtain ⟨a0, a1, a2, a3, a4, a5, a6, af⟩ := ask_cells hA1
    obtain ⟨k0, k1, kf⟩ := pair_cells (H.out.grown HB1.out).blk
    have HY1 : Hid (∀ W, Below w1.heap.size w1 W → Calls Try.prog 67 #[.pointer (some ⟨q, 0, none⟩), .string lo, .string hi, .int .i64 rev, .int .i64 most] W fun e w' => e = .returned (.tuple #[.slice none 0 0, .int .i64 2]) ∧ Below w1.heap.size w1 w') := by
      intro W hW
      refine (refRangeArg W q lo hi rev most hm).mono ?_
      rintro e w2 ⟨rfl, hb⟩
      exact ⟨rfl, below_via hb hW⟩
    clear hA1
    go_wp2_with fail
    go_region_held3 (fun w' => w'.cell? ⟨bp, 1, none⟩ = some (.pointer (some ⟨q, 0, none⟩)) ∧ w'.cell? ⟨w.heap.size, 2, none⟩ = some (.string lo) ∧ w'.cell? ⟨w.heap.size, 3, none⟩ = some (.string hi) ∧ w'.cell? ⟨w.heap.size, 4, none⟩ = some (.int .i64 rev) ∧ w'.cell? ⟨w.heap.size, 5, none⟩ = some (.int .i64 most)) (go_keep)
      (first | (
        go_at_call 67
        refine (HY1.out _ (by repeat (first | exact Below.refl _ _ | assumption | with_reducible refine below_drewN ?_ _ | refine Gr.ext ?_ _ | refine Gr.alloc ?_ _ | refine Gr.drew ?_ | (refine Gr.set ?_ (by first | (simp; done) | (simp; omega)) _)))).mono ?_
        rintro e w2 ⟨rfl, hb2⟩
        have e1 := (World.cell?_of_block (a := ⟨bp, 1, none⟩) (hb2.block bp hbp1)).trans k1
        have e2 := (World.cell?_of_block (a := ⟨w.heap.size, 2, none⟩) (hb2.block w.heap.size hz1)).trans a2
        have e3 := (World.cell?_of_block (a := ⟨w.heap.size, 3, none⟩) (hb2.block w.heap.size hz1)).trans a3
        have e4 := (World.cell?_of_block (a := ⟨w.heap.size, 4, none⟩) (hb2.block w.heap.size hz1)).trans a4
        have e5 := (World.cell?_of_block (a := ⟨w.heap.size, 5, none⟩) (hb2.block w.heap.size hz1)).trans a5))
    all_goals
      have HB2 : Hid (Below w.heap.size w w2) := HB1.out.trans (hb2.mono HB1.out.size)
      clear a0 a1 a2 a3 a4 a5 a6 af k0 k1 kf HY1 hb2
      try clear e1 e2 e3 e4 e5
      have HSF : Hid (∀ W, Below w2.heap.size w2 W → Calls Try.prog 33 #[.slice none 0 0, .slice none 0 0] W fun e w' => e = .returned (.bool true) ∧ Below w2.heap.size w2 w') := by
        intro W hW
        refine (sameFounds_same none none 0 0 [] W (by simp) (World.ownL.nil W 131 3).reads (World.ownL.nil W 131 3).reads).mono ?_
        rintro e w7 ⟨rfl, n7, rfl⟩
        exact ⟨rfl, below_drewN hW n7⟩
      go_wp2_with fail
      refine (HSF.out _ (by repeat (first | exact Below.refl _ _ | assumption | with_reducible refine below_drewN ?_ _ | refine Gr.ext ?_ _ | refine Gr.alloc ?_ _ | refine Gr.drew ?_ | (refine Gr.set ?_ (by first | (simp; done) | (simp; omega)) _)))).mono ?_
      rintro e w3 ⟨rfl, hb3⟩
      have HB3 : Hid (Below w.heap.size w w3) := HB2.out.trans (hb3.mono HB2.out.size)
      clear hb3 HSF
      go_wp2_with fail
      refine (end_fnd H.out HBK.out HPB.out HN.out (fs := []) (al := none) (c := 0) (below_via ((by repeat (first | exact Below.refl _ _ | assumption | with_reducible refine below_drewN ?_ _ | refine Gr.ext ?_ _ | refine Gr.alloc ?_ _ | refine Gr.drew ?_ | (refine Gr.set ?_ (by first | (simp; done) | (simp; omega)) _))) : Below w3.heap.size w3 _) HB3.out) (World.ownL.nil _ _ _) (fun x hx => by cases hx) (by simp)).mono ?_
      rintro e w8 ⟨rfl, hA⟩
      have HA8 : Hid _ := hA
      clear hA
      go_wp2_with fail
      exact bodyPost_ret (v := .bool true) (by simp [results, Try.results27, go_sem]) rfl ⟨rfl, HA8.out.2⟩
end Go.Proofs.Ytcbbnmodjnnbeaa
/- The law on stores: Range, a revision out of bounds. -/
set_option linter.unusedSimpArgs false
set_option linter.unusedVariables false
namespace Go.Proofs.Ytcbbnmodjnnbeaa
open Go.RowKit

set_option maxRecDepth 100000 in
set_option maxHeartbeats 8000000 in
theorem actRangeRev (w : World) (bp kb n p b : Nat) (D : DataW Value) (q : Nat) (vl : Value) (l : List KV) (s : St) (h : PairAt w bp p b D q vl l s) (vR vF : Value) (eR eF : List Ent) (hB : BookAt w kb vR vF eR eF n) (hPB : ∀ x, footP bp p b D q vl x → ¬ footBk kb vR vF eR eF x) (hn : n ≤ 900000000)
    (av : Option Addr) (al ac : Nat) (lo hi t : ByteArray) (rev most : Int) (hm : 0 ≤ most) (hrv : rev < s.floor ∨ (s.rev : Int) < rev) :
    Calls Try.prog 27 #[.pointer (some ⟨bp, 0, none⟩), .agg #[.int .i64 2, .slice av al ac, .string lo, .string hi, .int .i64 rev, .int .i64 most, .string t], .pointer (some ⟨kb, 0, none⟩)] w (ActOut w bp kb n (footP bp p b D q vl) (footBk kb vR vF eR eF)) := by
  have H : Hid (PairAt w bp p b D q vl l s) := h
  have HBK : Hid (BookAt w kb vR vF eR eF n) := hB
  have HPB : Hid (∀ x, footP bp p b D q vl x → ¬ footBk kb vR vF eR eF x) := hPB
  have HN : Hid (n ≤ 900000000) := hn
  have hbp := h.lt
  clear h hB hPB hn
  go_enter Try.func27, Try.ntmps27
  have HA0 : Hid ((w.alloc (.cells #[.int .i64 2, .slice av al ac, .string lo, .string hi, .int .i64 rev, .int .i64 most, .string t] 61)).heap[w.heap.size]? = some (.cells #[.int .i64 2, .slice av al ac, .string lo, .string hi, .int .i64 rev, .int .i64 most, .string t] 61)) := heap_alloc_new _ _
  obtain ⟨k0, k1, kf⟩ := pair_cells H.out.blk
  go_wp2_with fail
  refine world_any (F := fun W => Below w.heap.size w W ∧ w.heap.size < W.heap.size ∧ W.heap[w.heap.size]? = some (.cells #[.int .i64 2, .slice av al ac, .string lo, .string hi, .int .i64 rev, .int .i64 most, .string t] 61)) ⟨(by repeat (first | exact Below.refl _ _ | assumption | with_reducible refine below_drewN ?_ _ | refine Gr.ext ?_ _ | refine Gr.alloc ?_ _ | refine Gr.drew ?_ | (refine Gr.set ?_ (by first | (simp; done) | (simp; omega)) _))), by simp, heap_alloc_new _ _⟩ ?_
  rintro W0 ⟨hb0, hz0, hA0⟩
  have HB0 : Hid (Below w.heap.size w W0) := hb0
  have HAW : Hid (W0.heap[w.heap.size]? = some (.cells #[.int .i64 2, .slice av al ac, .string lo, .string hi, .int .i64 rev, .int .i64 most, .string t] 61)) := hA0
  have hbp0 : bp < W0.heap.size := by omega
  obtain ⟨a0, a1, a2, a3, a4, a5, a6, af⟩ := ask_cells hA0
  clear k0 k1 kf
  obtain ⟨k0, k1, kf⟩ := pair_cells (H.out.grown hb0).blk
  have HX0 : Hid (∀ W, Below W0.heap.size W0 W → Calls Try.prog 32 #[.pointer (some ⟨p, 0, none⟩), .string lo, .string hi, .int .i64 rev, .int .i64 most] W fun e w' => e = .returned (.tuple #[.slice none 0 0, .int .i64 9]) ∧ Below W0.heap.size W0 w') := by
    intro W hW
    refine (storeRangeRev W p b D s (H.out.grown (HB0.out.trans (hW.mono HB0.out.size))).st lo hi rev most hm hrv).mono ?_
    rintro e w1 ⟨rfl, hb⟩
    exact ⟨rfl, below_via hb hW⟩
  clear hb0 hA0 HA0
  go_region_held3 (fun w' => w'.cell? ⟨bp, 0, none⟩ = some (.pointer (some ⟨p, 0, none⟩)) ∧ w'.cell? ⟨w.heap.size, 2, none⟩ = some (.string lo) ∧ w'.cell? ⟨w.heap.size, 3, none⟩ = some (.string hi) ∧ w'.cell? ⟨w.heap.size, 4, none⟩ = some (.int .i64 rev) ∧ w'.cell? ⟨w.heap.size, 5, none⟩ = some (.int .i64 most)) (go_keep)
    (first | (
      go_at_call 32
      refine (HX0.out _ (by repeat (first | exact Below.refl _ _ | assumption | with_reducible refine below_drewN ?_ _ | refine Gr.ext ?_ _ | refine Gr.alloc ?_ _ | refine Gr.drew ?_ | (refine Gr.set ?_ (by first | (simp; done) | (simp; omega)) _)))).mono ?_
      rintro e w1 ⟨rfl, hb1⟩
      have e0 := (World.cell?_of_block (a := ⟨bp, 0, none⟩) (hb1.block bp hbp0)).trans k0
      have e2 := (World.cell?_of_block (a := ⟨w.heap.size, 2, none⟩) (hb1.block w.heap.size hz0)).trans a2
      have e3 := (World.cell?_of_block (a := ⟨w.heap.size, 3, none⟩) (hb1.block w.heap.size hz0)).trans a3
      have e4 := (World.cell?_of_block (a := ⟨w.heap.size, 4, none⟩) (hb1.block w.heap.size hz0)).trans a4
      have e5 := (World.cell?_of_block (a := ⟨w.heap.size, 5, none⟩) (hb1.block w.heap.size hz0)).trans a5))
  all_goals
    have hA1 := (hb1.block w.heap.size hz0).trans HAW.out
    have HB1 : Hid (Below w.heap.size w w1) := HB0.out.trans (hb1.mono HB0.out.size)
    have hz1 : w.heap.size < w1.heap.size := by have := hb1.size; omega
    have hbp1 : bp < w1.heap.size := by omega
    have HA1 : Hid (w1.heap[w.heap.size]? = some (.cells #[.int .i64 2, .slice av al ac, .string lo, .string hi, .int .i64 rev, .int .i64 most, .string t] 61)) := hA1
    clear a0 a1 a2 a3 a4 a5 a6 af k0 k1 kf HX0 hb1
    try clear e0 e2 e3 e4 e5
    obtain ⟨a0, a1, a2, a3, a4, a5, a6, af⟩ := ask_cells hA1
    obtain ⟨k0, k1, kf⟩ := pair_cells (H.out.grown HB1.out).blk
    have HY1 : Hid (∀ W, Below w1.heap.size w1 W → Calls Try.prog 67 #[.pointer (some ⟨q, 0, none⟩), .string lo, .string hi, .int .i64 rev, .int .i64 most] W fun e w' => e = .returned (.tuple #[.slice none 0 0, .int .i64 9]) ∧ Below w1.heap.size w1 w') := by
      intro W hW
      refine (refRangeRev W q vl s l (H.out.grown (HB1.out.trans (hW.mono HB1.out.size))).rf lo hi rev most hm hrv).mono ?_
      rintro e w2 ⟨rfl, hb⟩
      exact ⟨rfl, below_via hb hW⟩
    clear hA1
    go_wp2_with fail
    go_region_held3 (fun w' => w'.cell? ⟨bp, 1, none⟩ = some (.pointer (some ⟨q, 0, none⟩)) ∧ w'.cell? ⟨w.heap.size, 2, none⟩ = some (.string lo) ∧ w'.cell? ⟨w.heap.size, 3, none⟩ = some (.string hi) ∧ w'.cell? ⟨w.heap.size, 4, none⟩ = some (.int .i64 rev) ∧ w'.cell? ⟨w.heap.size, 5, none⟩ = some (.int .i64 most)) (go_keep)
      (first | (
        go_at_call 67
        refine (HY1.out _ (by repeat (first | exact Below.refl _ _ | assumption | with_reducible refine below_drewN ?_ _ | refine Gr.ext ?_ _ | refine Gr.alloc ?_ _ | refine Gr.drew ?_ | (refine Gr.set ?_ (by first | (simp; done) | (simp; omega)) _)))).mono ?_
        rintro e w2 ⟨rfl, hb2⟩
        have e1 := (World.cell?_of_block (a := ⟨bp, 1, none⟩) (hb2.block bp hbp1)).trans k1
        have e2 := (World.cell?_of_block (a := ⟨w.heap.size, 2, none⟩) (hb2.block w.heap.size hz1)).trans a2
        have e3 := (World.cell?_of_block (a := ⟨w.heap.size, 3, none⟩) (hb2.block w.heap.size hz1)).trans a3
        have e4 := (World.cell?_of_block (a := ⟨w.heap.size, 4, none⟩) (hb2.block w.heap.size hz1)).trans a4
        have e5 := (World.cell?_of_block (a := ⟨w.heap.size, 5, none⟩) (hb2.block w.heap.size hz1)).trans a5))
    all_goals
      have HB2 : Hid (Below w.heap.size w w2) := HB1.out.trans (hb2.mono HB1.out.size)
      clear a0 a1 a2 a3 a4 a5 a6 af k0 k1 kf HY1 hb2
      try clear e1 e2 e3 e4 e5
      have HSF : Hid (∀ W, Below w2.heap.size w2 W → Calls Try.prog 33 #[.slice none 0 0, .slice none 0 0] W fun e w' => e = .returned (.bool true) ∧ Below w2.heap.size w2 w') := by
        intro W hW
        refine (sameFounds_same none none 0 0 [] W (by simp) (World.ownL.nil W 131 3).reads (World.ownL.nil W 131 3).reads).mono ?_
        rintro e w7 ⟨rfl, n7, rfl⟩
        exact ⟨rfl, below_drewN hW n7⟩
      go_wp2_with fail
      refine (HSF.out _ (by repeat (first | exact Below.refl _ _ | assumption | with_reducible refine below_drewN ?_ _ | refine Gr.ext ?_ _ | refine Gr.alloc ?_ _ | refine Gr.drew ?_ | (refine Gr.set ?_ (by first | (simp; done) | (simp; omega)) _)))).mono ?_
      rintro e w3 ⟨rfl, hb3⟩
      have HB3 : Hid (Below w.heap.size w w3) := HB2.out.trans (hb3.mono HB2.out.size)
      clear hb3 HSF
      go_wp2_with fail
      refine (end_fnd H.out HBK.out HPB.out HN.out (fs := []) (al := none) (c := 0) (below_via ((by repeat (first | exact Below.refl _ _ | assumption | with_reducible refine below_drewN ?_ _ | refine Gr.ext ?_ _ | refine Gr.alloc ?_ _ | refine Gr.drew ?_ | (refine Gr.set ?_ (by first | (simp; done) | (simp; omega)) _))) : Below w3.heap.size w3 _) HB3.out) (World.ownL.nil _ _ _) (fun x hx => by cases hx) (by simp)).mono ?_
      rintro e w8 ⟨rfl, hA⟩
      have HA8 : Hid _ := hA
      clear hA
      go_wp2_with fail
      exact bodyPost_ret (v := .bool true) (by simp [results, Try.results27, go_sem]) rfl ⟨rfl, HA8.out.2⟩
end Go.Proofs.Ytcbbnmodjnnbeaa
/- The law on stores: Range, lists come out. -/
set_option linter.unusedSimpArgs false
set_option linter.unusedVariables false
namespace Go.Proofs.Ytcbbnmodjnnbeaa
open Go.RowKit

set_option maxRecDepth 100000 in
set_option maxHeartbeats 8000000 in
theorem actRangeOk (w : World) (bp kb n p b : Nat) (D : DataW Value) (q : Nat) (vl : Value) (l : List KV) (s : St) (h : PairAt w bp p b D q vl l s) (vR vF : Value) (eR eF : List Ent) (hB : BookAt w kb vR vF eR eF n) (hPB : ∀ x, footP bp p b D q vl x → ¬ footBk kb vR vF eR eF x) (hn : n ≤ 900000000)
    (av : Option Addr) (al ac : Nat) (lo hi t : ByteArray) (rev : Int) (m : Nat) (hr1 : (s.floor : Int) ≤ rev) (hr2 : rev ≤ s.rev) (hm : m < 9223372036854775808) :
    Calls Try.prog 27 #[.pointer (some ⟨bp, 0, none⟩), .agg #[.int .i64 2, .slice av al ac, .string lo, .string hi, .int .i64 rev, .int .i64 (m : Int), .string t], .pointer (some ⟨kb, 0, none⟩)] w (ActOut w bp kb n (footP bp p b D q vl) (footBk kb vR vF eR eF)) := by
  have H : Hid (PairAt w bp p b D q vl l s) := h
  have HBK : Hid (BookAt w kb vR vF eR eF n) := hB
  have HPB : Hid (∀ x, footP bp p b D q vl x → ¬ footBk kb vR vF eR eF x) := hPB
  have HN : Hid (n ≤ 900000000) := hn
  have hbp := h.lt
  clear h hB hPB hn
  go_enter Try.func27, Try.ntmps27
  have HA0 : Hid ((w.alloc (.cells #[.int .i64 2, .slice av al ac, .string lo, .string hi, .int .i64 rev, .int .i64 (m : Int), .string t] 61)).heap[w.heap.size]? = some (.cells #[.int .i64 2, .slice av al ac, .string lo, .string hi, .int .i64 rev, .int .i64 (m : Int), .string t] 61)) := heap_alloc_new _ _
  obtain ⟨k0, k1, kf⟩ := pair_cells H.out.blk
  go_wp2_with fail
  refine world_any (F := fun W => Below w.heap.size w W ∧ w.heap.size < W.heap.size ∧ W.heap[w.heap.size]? = some (.cells #[.int .i64 2, .slice av al ac, .string lo, .string hi, .int .i64 rev, .int .i64 (m : Int), .string t] 61)) ⟨(by repeat (first | exact Below.refl _ _ | assumption | with_reducible refine below_drewN ?_ _ | refine Gr.ext ?_ _ | refine Gr.alloc ?_ _ | refine Gr.drew ?_ | (refine Gr.set ?_ (by first | (simp; done) | (simp; omega)) _))), by simp, heap_alloc_new _ _⟩ ?_
  rintro W0 ⟨hb0, hz0, hA0⟩
  have HB0 : Hid (Below w.heap.size w W0) := hb0
  have HAW : Hid (W0.heap[w.heap.size]? = some (.cells #[.int .i64 2, .slice av al ac, .string lo, .string hi, .int .i64 rev, .int .i64 (m : Int), .string t] 61)) := hA0
  have hbp0 : bp < W0.heap.size := by omega
  obtain ⟨a0, a1, a2, a3, a4, a5, a6, af⟩ := ask_cells hA0
  clear k0 k1 kf
  obtain ⟨k0, k1, kf⟩ := pair_cells (H.out.grown hb0).blk
  have HX0 : Hid (∀ W, Below W0.heap.size W0 W → Calls Try.prog 32 #[.pointer (some ⟨p, 0, none⟩), .string lo, .string hi, .int .i64 rev, .int .i64 (m : Int)] W fun e w' => ∃ (fs : List Fnd) (a1 : Option Addr) (c1 : Nat), (∃ L, RangeIs s lo hi rev L ∧ fs = L.take m) ∧ e = .returned (.tuple #[.slice a1 fs.length c1, .int .i64 0]) ∧ w'.ownL 131 3 (.slice a1 fs.length c1) (fs.map Fnd.cells) ∧ (∀ x, (Value.slice a1 fs.length c1).ownBlock = some x → w.heap.size ≤ x) ∧ Below W0.heap.size W0 w') := by
    intro W hW
    refine (storeRangeOk W p b D s (H.out.grown (HB0.out.trans (hW.mono HB0.out.size))).st lo hi rev m hr1 hr2 hm).mono ?_
    rintro e w1 ⟨L, v, rfl, h1, h2, h3, h4⟩
    obtain ⟨a1, c1, hv⟩ := h2.len
    rw [List.length_map] at hv
    subst hv
    exact ⟨L.take m, a1, c1, ⟨L, h1, rfl⟩, rfl, h2, fun x hx => by have := h3 x hx; have := hW.size; omega, below_via h4 hW⟩
  clear hb0 hA0 HA0
  go_region_held3 (fun w' => w'.cell? ⟨bp, 0, none⟩ = some (.pointer (some ⟨p, 0, none⟩)) ∧ w'.cell? ⟨w.heap.size, 2, none⟩ = some (.string lo) ∧ w'.cell? ⟨w.heap.size, 3, none⟩ = some (.string hi) ∧ w'.cell? ⟨w.heap.size, 4, none⟩ = some (.int .i64 rev) ∧ w'.cell? ⟨w.heap.size, 5, none⟩ = some (.int .i64 (m : Int))) (go_keep)
    (first | (
      go_at_call 32
      refine (HX0.out _ (by repeat (first | exact Below.refl _ _ | assumption | with_reducible refine below_drewN ?_ _ | refine Gr.ext ?_ _ | refine Gr.alloc ?_ _ | refine Gr.drew ?_ | (refine Gr.set ?_ (by first | (simp; done) | (simp; omega)) _)))).mono ?_
      rintro e w1 ⟨fs, al1, c1, hL1, rfl, ho1, hn1, hb1⟩
      have e0 := (World.cell?_of_block (a := ⟨bp, 0, none⟩) (hb1.block bp hbp0)).trans k0
      have e2 := (World.cell?_of_block (a := ⟨w.heap.size, 2, none⟩) (hb1.block w.heap.size hz0)).trans a2
      have e3 := (World.cell?_of_block (a := ⟨w.heap.size, 3, none⟩) (hb1.block w.heap.size hz0)).trans a3
      have e4 := (World.cell?_of_block (a := ⟨w.heap.size, 4, none⟩) (hb1.block w.heap.size hz0)).trans a4
      have e5 := (World.cell?_of_block (a := ⟨w.heap.size, 5, none⟩) (hb1.block w.heap.size hz0)).trans a5))
  all_goals
    have hA1 := (hb1.block w.heap.size hz0).trans HAW.out
    have HL1 : Hid (∃ L, RangeIs s lo hi rev L ∧ fs = L.take m) := hL1
    have HO1 : Hid (w1.ownL 131 3 (.slice al1 fs.length c1) (fs.map Fnd.cells)) := ho1
    have HN1 : Hid (∀ x, (Value.slice al1 fs.length c1).ownBlock = some x → w.heap.size ≤ x) := hn1
    have HFS : Hid (fs.length ≤ 1000000) := by
      obtain ⟨L, h1, h2⟩ := hL1
      have h3 := h1.len_le H.out.sav.bnd
      have h4 := H.out.sav.bnd.good.rev
      show _ ≤ _
      rw [h2, List.length_take]; omega
    clear hL1 ho1 hn1
    have HB1 : Hid (Below w.heap.size w w1) := HB0.out.trans (hb1.mono HB0.out.size)
    have hz1 : w.heap.size < w1.heap.size := by have := hb1.size; omega
    have hbp1 : bp < w1.heap.size := by omega
    have HA1 : Hid (w1.heap[w.heap.size]? = some (.cells #[.int .i64 2, .slice av al ac, .string lo, .string hi, .int .i64 rev, .int .i64 (m : Int), .string t] 61)) := hA1
    clear a0 a1 a2 a3 a4 a5 a6 af k0 k1 kf HX0 hb1
    try clear e0 e2 e3 e4 e5
    obtain ⟨a0, a1, a2, a3, a4, a5, a6, af⟩ := ask_cells hA1
    obtain ⟨k0, k1, kf⟩ := pair_cells (H.out.grown HB1.out).blk
    have HY1 : Hid (∀ W, Below w1.heap.size w1 W → Calls Try.prog 67 #[.pointer (some ⟨q, 0, none⟩), .string lo, .string hi, .int .i64 rev, .int .i64 (m : Int)] W fun e w' => ∃ (a2 : Option Addr) (c2 : Nat), e = .returned (.tuple #[.slice a2 fs.length c2, .int .i64 0]) ∧ w'.ownL 131 3 (.slice a2 fs.length c2) (fs.map Fnd.cells) ∧ Below w1.heap.size w1 w') := by
      intro W hW
      refine (refRangeOk W q vl s l (H.out.grown (HB1.out.trans (hW.mono HB1.out.size))).rf lo hi rev m hr1 hr2 hm).mono ?_
      rintro e w2 ⟨v, rfl, L2, h1, h2, h3, h4⟩
      obtain ⟨L, g1, g2⟩ := HL1.out
      have e2 : L2 = L := h1.unique g1 fun k => rfl
      rw [e2, ← g2] at h2
      obtain ⟨a2, c2, hv⟩ := h2.len
      rw [List.length_map] at hv
      subst hv
      exact ⟨a2, c2, rfl, h2, below_via h4 hW⟩
    clear hA1
    go_wp2_with fail
    go_region_held3 (fun w' => w'.cell? ⟨bp, 1, none⟩ = some (.pointer (some ⟨q, 0, none⟩)) ∧ w'.cell? ⟨w.heap.size, 2, none⟩ = some (.string lo) ∧ w'.cell? ⟨w.heap.size, 3, none⟩ = some (.string hi) ∧ w'.cell? ⟨w.heap.size, 4, none⟩ = some (.int .i64 rev) ∧ w'.cell? ⟨w.heap.size, 5, none⟩ = some (.int .i64 (m : Int))) (go_keep)
      (first | (
        go_at_call 67
        refine (HY1.out _ (by repeat (first | exact Below.refl _ _ | assumption | with_reducible refine below_drewN ?_ _ | refine Gr.ext ?_ _ | refine Gr.alloc ?_ _ | refine Gr.drew ?_ | (refine Gr.set ?_ (by first | (simp; done) | (simp; omega)) _)))).mono ?_
        rintro e w2 ⟨al2, c2, rfl, ho2, hb2⟩
        have e1 := (World.cell?_of_block (a := ⟨bp, 1, none⟩) (hb2.block bp hbp1)).trans k1
        have e2 := (World.cell?_of_block (a := ⟨w.heap.size, 2, none⟩) (hb2.block w.heap.size hz1)).trans a2
        have e3 := (World.cell?_of_block (a := ⟨w.heap.size, 3, none⟩) (hb2.block w.heap.size hz1)).trans a3
        have e4 := (World.cell?_of_block (a := ⟨w.heap.size, 4, none⟩) (hb2.block w.heap.size hz1)).trans a4
        have e5 := (World.cell?_of_block (a := ⟨w.heap.size, 5, none⟩) (hb2.block w.heap.size hz1)).trans a5))
    all_goals
      have HO2 : Hid (w2.ownL 131 3 (.slice al2 fs.length c2) (fs.map Fnd.cells)) := ho2
      have HO12 : Hid (w2.ownL 131 3 (.slice al1 fs.length c1) (fs.map Fnd.cells)) := HO1.out.keep fun k hk => hb2.block k (HO1.out.lt hk)
      clear ho2
      have HB2 : Hid (Below w.heap.size w w2) := HB1.out.trans (hb2.mono HB1.out.size)
      clear a0 a1 a2 a3 a4 a5 a6 af k0 k1 kf HY1 hb2
      try clear e1 e2 e3 e4 e5
      have HSF : Hid (∀ W, Below w2.heap.size w2 W → Calls Try.prog 33 #[.slice al1 fs.length c1, .slice al2 fs.length c2] W fun e w' => e = .returned (.bool true) ∧ Below w2.heap.size w2 w') := by
        intro W hW
        refine (sameFounds_same al1 al2 c1 c2 fs W (by have := HFS.out; omega) (HO12.out.keep fun k hk => hW.block k (HO12.out.lt hk)).reads (HO2.out.keep fun k hk => hW.block k (HO2.out.lt hk)).reads).mono ?_
        rintro e w7 ⟨rfl, n7, rfl⟩
        exact ⟨rfl, below_drewN hW n7⟩
      go_wp2_with fail
      refine (HSF.out _ (by repeat (first | exact Below.refl _ _ | assumption | with_reducible refine below_drewN ?_ _ | refine Gr.ext ?_ _ | refine Gr.alloc ?_ _ | refine Gr.drew ?_ | (refine Gr.set ?_ (by first | (simp; done) | (simp; omega)) _)))).mono ?_
      rintro e w3 ⟨rfl, hb3⟩
      have HO3 : Hid (w3.ownL 131 3 (.slice al1 fs.length c1) (fs.map Fnd.cells)) := HO12.out.keep fun k hk => hb3.block k (HO12.out.lt hk)
      have HB3 : Hid (Below w.heap.size w w3) := HB2.out.trans (hb3.mono HB2.out.size)
      clear hb3 HSF
      go_wp2_with fail
      refine (end_fnd H.out HBK.out HPB.out HN.out (fs := fs) (al := al1) (c := c1) (below_via ((by repeat (first | exact Below.refl _ _ | assumption | with_reducible refine below_drewN ?_ _ | refine Gr.ext ?_ _ | refine Gr.alloc ?_ _ | refine Gr.drew ?_ | (refine Gr.set ?_ (by first | (simp; done) | (simp; omega)) _))) : Below w3.heap.size w3 _) HB3.out) (HO3.out.keep fun k hk => ((by repeat (first | exact Below.refl _ _ | assumption | with_reducible refine below_drewN ?_ _ | refine Gr.ext ?_ _ | refine Gr.alloc ?_ _ | refine Gr.drew ?_ | (refine Gr.set ?_ (by first | (simp; done) | (simp; omega)) _))) : Below w3.heap.size w3 _).block k (HO3.out.lt hk)) HN1.out HFS.out).mono ?_
      rintro e w8 ⟨rfl, hA⟩
      have HA8 : Hid _ := hA
      clear hA
      go_wp2_with fail
      exact bodyPost_ret (v := .bool true) (by simp [results, Try.results27, go_sem]) rfl ⟨rfl, HA8.out.2⟩
end Go.Proofs.Ytcbbnmodjnnbeaa
