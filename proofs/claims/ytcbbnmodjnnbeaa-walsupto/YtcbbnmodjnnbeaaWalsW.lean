/- The law on journals: a new desk; any deed. -/
import Derived.Test.YtcbbnmodjnnbeaaDeskL
set_option linter.unusedSimpArgs false
set_option linter.unusedVariables false
namespace Go.Proofs.Ytcbbnmodjnnbeaa
open Go.RowKit

theorem deedAny (w : World) (d : DD) (m b : Nat) (h : DAt w d) (hr : Rdy d m) (hm : m + b ≤ 100000000) (x : DeedV) (hx : x.ok d.w0 b) (hn : d.n ≤ 100000000) :
    Calls Try.prog 38 #[.pointer (some ⟨d.dp, 0, none⟩), .agg x.cells.toArray] w (DeedOut d.w0 d.dp (d.n + 4) (m + b)) := by
  by_cases k1 : x.kind = 1
  · exact (deedOpen w d m b h hr (by omega) x hx k1 hn).mono fun e w' h => h.up (Nat.le_add_right _ _)
  by_cases k5 : x.kind = 5
  · exact (deedBreak w d m b h hr (by omega) x hx k5).mono fun e w' h => h.up (Nat.le_add_right _ _)
  by_cases k6 : x.kind = 6
  · exact (deedCrash w d m b h hr (by omega) x hx k6).mono fun e w' h => h.up (Nat.le_add_right _ _)
  by_cases k7 : x.kind = 7
  · exact (deedFile w d m b h hr (by omega) x hx k7).mono fun e w' h => h.up (Nat.le_add_right _ _)
  · exact deedJ w d m b h hr hm x hx hn (beq_eq_false_iff_ne.2 k1) (beq_eq_false_iff_ne.2 k5) (beq_eq_false_iff_ne.2 k6) (beq_eq_false_iff_ne.2 k7)
/-- The desk between two calls of the law. -/
def LoopS (w wr : World) (dp n m : Nat) : Prop := ∃ d, DAt wr d ∧ Rdy d m ∧ d.w0 = w ∧ d.dp = dp ∧ d.n = n
theorem LoopS.grown {w wr W : World} {dp n m : Nat} (h : LoopS w wr dp n m) (hb : Below wr.heap.size wr W) : LoopS w W dp n m := by
  obtain ⟨d, a, b⟩ := h
  exact ⟨d, a.grown hb, b⟩
theorem LoopS.below {w wr : World} {dp n m : Nat} (h : LoopS w wr dp n m) : Below w.heap.size w wr := by
  obtain ⟨d, a, _, rfl, _⟩ := h
  exact a.below
theorem LoopS.deed {w wr : World} {dp n m : Nat} (h : LoopS w wr dp n m) (b : Nat) (hm : m + b ≤ 100000000) (hn : n ≤ 100000000) (x : DeedV) (hx : x.ok w b) (W : World) (hW : Below wr.heap.size wr W) :
    Calls Try.prog 38 #[.pointer (some ⟨dp, 0, none⟩), .agg x.cells.toArray] W fun e w' => e = .returned (.bool true) ∧ LoopS w w' dp (n + 4) (m + b) := by
  obtain ⟨d, h1, h2, rfl, rfl, rfl⟩ := h
  exact deedAny W d m b (h1.grown hW) h2 hm x hx hn
theorem LoopS.looks {w wr : World} {dp n m : Nat} (h : LoopS w wr dp n m) (hn : n ≤ 900000000) : ∃ kb, wr.cell? ⟨dp, 4, none⟩ = some (.pointer (some ⟨kb, 0, none⟩)) ∧ (∀ o, wr.frozen? ⟨dp, o, none⟩ = false) ∧ dp < wr.heap.size ∧ ∀ W, Below wr.heap.size wr W → Calls Try.prog 22 #[.pointer (some ⟨kb, 0, none⟩)] W fun e w' => e = .returned (.bool true) ∧ LoopS w w' dp n m := by
  obtain ⟨d, h1, h2, rfl, rfl, rfl⟩ := h
  obtain ⟨c0, c1, c2, c3, c4, cf⟩ := desk_cells h1.blk
  refine ⟨d.kb, c4, cf, h1.lt, fun W hW => ?_⟩
  refine (bkLooks W d.kb d.n d.FB (h1.grown hW).bk hn).mono ?_
  rintro e w' ⟨rfl, hb⟩
  exact ⟨rfl, d, (h1.grown hW).grown hb, h2, rfl, rfl, rfl⟩
theorem LoopS.list {w wr : World} {dp n m : Nat} (h : LoopS w wr dp n m) : ∃ a N c, wr.cell? ⟨dp, 2, none⟩ = some (.slice a N c) ∧ (∀ o, wr.frozen? ⟨dp, o, none⟩ = false) ∧ dp < wr.heap.size ∧ N ≤ n := by
  obtain ⟨d, h1, h2, rfl, rfl, rfl⟩ := h
  obtain ⟨c0, c1, c2, c3, c4, cf⟩ := desk_cells h1.blk
  obtain ⟨a, c, hv⟩ := h1.ox.len
  rw [List.length_map] at hv
  rw [hv] at c2
  exact ⟨a, d.jx.length, c, c2, cf, h1.lt, by rw [h2.jx]; exact h2.jl⟩
def DeedV.of (kind k : Int) : DeedV := ⟨kind, k, 0, none, 0, [], WSt.zero, none, 0⟩
theorem zero_recs : ∀ g, (jrnL ({ WSt.zero with gen := g } : WSt).recs).length ≤ 100 := by
  intro g
  simp [jrnL, WSt.recs, WSt.zero, WSt.baseR, WSt.hardR, itemsR, oneL, encL, bodyL, be_length, List.flatMap]
theorem DeedV.of_ok (w : World) (kind k : Int) (hk : -9223372036854775808 ≤ k ∧ k < 9223372036854775808) : (DeedV.of kind k).ok w 100 :=
  ⟨fun h => absurd rfl h, by simp [DeedV.of], by simp [DeedV.of, jrnL], fun h => absurd rfl h, by simp [DeedV.of, WSt.zero], zero_recs, hk, by simp [DeedV.of]⟩
set_option maxRecDepth 100000 in
set_option maxHeartbeats 4000000 in
theorem deskNew (w : World) : Calls Try.prog 37 #[] w fun e w' => ∃ dp, e = .returned (.pointer (some ⟨dp, 0, none⟩)) ∧ LoopS w w' dp 0 100 := by
  go_enter Try.func37, Try.ntmps37
  go_wp2_with fail
  refine (xNew w).mono ?_
  rintro e w1 ⟨p, rfl, hp, hx, hb1⟩
  have HX : Hid (PX w1 p [] (fun x => x = p) Dk.zero none) := hx
  have HB1 : Hid (Below w.heap.size w w1) := hb1
  have HP : Hid (w.heap.size ≤ p ∧ p < w1.heap.size) := ⟨hp, hx.lt p rfl⟩
  clear hp hx hb1
  go_wp2_with fail
  refine (yNew w1).mono ?_
  rintro e w2 ⟨q, rfl, hq, hy, hb2⟩
  have HY : Hid (PY w2 q [] Dk.zero none) := hy
  have HX2 : Hid (PX w2 p [] (fun x => x = p) Dk.zero none) := HX.out.grown hb2
  have HB2 : Hid (Below w.heap.size w w2) := belowVia hb2 HB1.out
  have HQ : Hid (w1.heap.size ≤ q ∧ q < w2.heap.size) := ⟨hq, hy.lt (.inl rfl)⟩
  clear hq hy hb2 HX
  go_wp2_with fail
  refine world_any (F := fun W => Below w2.heap.size w2 W ∧ W.heap[w2.heap.size]? = some (.cells #[.slice none 0 0, .slice none 0 0, .slice none 0 0, .slice none 0 0] 43) ∧ W.heap[w2.heap.size + 1]? = some (.cells #[.pointer (some ⟨p, 0, none⟩), .pointer (some ⟨q, 0, none⟩), .slice none 0 0, .slice none 0 0, .pointer (some ⟨w2.heap.size, 0, none⟩)] 98)) ⟨(by repeat (first | exact Below.refl _ _ | assumption | with_reducible refine below_drewN ?_ _ | refine Gr.ext ?_ _ | refine Gr.alloc ?_ _ | refine Gr.drew ?_ | (refine Gr.set ?_ (by first | (simp; done) | (simp; omega)) _))), Hp.alloc (Hp.new rfl) _, Hp.new (by simp)⟩ ?_
  rintro W ⟨hb, hk, hd⟩
  go_ret
  have hB : Below w.heap.size w W := belowVia hb HB2.out
  have h1 := HP.out
  have h2 := HQ.out
  have h3 := HB2.out.size
  have h4 := HB1.out.size
  refine ⟨w2.heap.size + 1, rfl, ⟨w, w2.heap.size + 1, p, q, w2.heap.size, .slice none 0 0, .slice none 0 0, [], [], [], [], fun x => x = p, fun x => x = w2.heap.size, Dk.zero, Dk.zero, none, none, 0, fun x => if x < w.heap.size then 9 else if x = p then 3 else if x = q then 4 else if x = w2.heap.size then 5 else if x = w2.heap.size + 1 then 0 else 9⟩, ⟨hB, hd, World.ownL.nil _ _ _, World.ownL.nil _ _ _, HX2.out.grown hb, HY.out.grown hb, bkNew hk, ?_, (fun x hx => by cases hx), (fun x hx => by cases hx), fun x hx => ?_, fun x hx => ?_, fun x hx => ?_, fun x hx => ?_⟩, ⟨rfl, rfl, rfl, rfl, rfl, ⟨rfl, rfl⟩, ⟨Nat.zero_le _, Nat.zero_le _⟩, Nat.le_refl _, Nat.le_refl _⟩, rfl, rfl, rfl⟩
  · simp only
    rw [if_neg (by omega), if_neg (by omega), if_neg (by omega), if_neg (by omega)]
    simp
  · have hx' : x = p := hx
    simp only
    rw [if_neg (by omega), if_pos hx']
  · have hx' : x = q := by
      rcases hx with hx | hx
      · exact hx
      · cases hx
    simp only
    rw [if_neg (by omega), if_neg (by omega), if_pos hx']
  · have hx' : x = w2.heap.size := hx
    simp only
    rw [if_neg (by omega), if_neg (by omega), if_neg (by omega), if_pos hx']
  · simp only at hx ⊢
    by_cases hlt : x < w.heap.size
    · rw [if_pos hlt] at hx; omega
    · omega
end Go.Proofs.Ytcbbnmodjnnbeaa
/- The law on journals: the walk. -/
set_option linter.unusedSimpArgs false
set_option linter.unusedVariables false
namespace Go.Proofs.Ytcbbnmodjnnbeaa
open Go.RowKit

theorem DeedV.off {w : World} {b p : Nat} {r : DeedV} (h : w.rangeAt b p r.cells) :
    w.cell? ⟨b, p, none⟩ = some (.int .i64 r.kind) ∧ w.cell? ⟨b, p + 1, none⟩ = some (.int .i64 r.k) ∧ w.cell? ⟨b, p + 2, none⟩ = some (.int .i64 r.keep) ∧ w.cell? ⟨b, p + 3, none⟩ = some (.slice r.ra r.rs.length r.rc) ∧ w.cell? ⟨b, p + 4, none⟩ = some (.int .i64 r.S.gen) ∧ w.cell? ⟨b, p + 5, none⟩ = some (.int .i64 r.S.term) ∧ w.cell? ⟨b, p + 6, none⟩ = some (.int .i64 r.S.vote) ∧ w.cell? ⟨b, p + 7, none⟩ = some (.int .i64 r.S.base) ∧ w.cell? ⟨b, p + 8, none⟩ = some (.int .i64 r.S.bterm) ∧ w.cell? ⟨b, p + 9, none⟩ = some (.string r.S.data) ∧ w.cell? ⟨b, p + 10, none⟩ = some (.slice r.la r.S.log.length r.lc) :=
  ⟨h 0 _ rfl, h 1 _ rfl, h 2 _ rfl, h 3 _ rfl, h 4 _ rfl, h 5 _ rfl, h 6 _ rfl, h 7 _ rfl, h 8 _ rfl, h 9 _ rfl, h 10 _ rfl⟩
theorem DeedV.at_reads {w : World} {a : Option Addr} {n cap : Nat} {rs : List (DeedV × Nat)} (h : w.reads 11 (.slice a n cap) (rs.map fun x => x.1.cells)) {k : Nat} (hk : k < rs.length) : ∃ g o, a = some ⟨g, o, none⟩ ∧ g < w.heap.size ∧ w.rangeAt g (o + k * 11) rs[k].1.cells := by
  rcases h with ⟨_, h2⟩ | ⟨g, off, cap', hv, hg, hc⟩
  · have : rs = [] := by simpa using h2
    subst this; simp at hk
  · injection hv with h1 h2 h3
    exact ⟨g, off, h1, hg, (hc k rs[k].1.cells (by rw [List.getElem?_map, List.getElem?_eq_getElem hk]; rfl)).2⟩
def sumB (l : List (DeedV × Nat)) : Nat := (l.map fun x => x.2).sum
theorem sumB_take (l : List (DeedV × Nat)) {k : Nat} (hk : k < l.length) : sumB (l.take (k + 1)) = sumB (l.take k) + l[k].2 := by
  unfold sumB
  rw [List.take_succ_eq_append_getElem hk, List.map_append, List.sum_append]; simp
theorem sumB_le (l : List (DeedV × Nat)) (k : Nat) : sumB (l.take k) ≤ sumB l := by
  have h : sumB l = sumB (l.take k) + sumB (l.drop k) := by
    unfold sumB
    rw [← List.sum_append, ← List.map_append, List.take_append_drop]
  omega
set_option maxRecDepth 100000 in
set_option maxHeartbeats 8000000 in
theorem lawWals (w : World) (a : Option Addr) (cap : Nat) (l : List (DeedV × Nat)) (hr : l ≠ [] → w.reads 11 (.slice a l.length cap) (l.map fun x => x.1.cells)) (hk : ∀ x ∈ l, x.1.ok w x.2) (hn : l.length ≤ 1048576) (hs : sumB l ≤ 90000000) :
    Calls Try.prog 10 #[.slice a l.length cap] w fun e w' => e = .returned (.bool true) ∧ Below w.heap.size w w' := by
  have HR : Hid (l ≠ [] → w.reads 11 (.slice a l.length cap) (l.map fun x => x.1.cells)) := hr
  have HK : Hid (∀ x ∈ l, x.1.ok w x.2) := hk
  have HS : Hid (sumB l ≤ 90000000) := hs
  obtain ⟨n, hnl⟩ : ∃ n, n = l.length := ⟨_, rfl⟩
  have HNL : Hid (n = l.length) := hnl
  rw [← hnl] at hn ⊢
  clear hr hk hs hnl
  go_enter Try.func10, Try.ntmps10
  go_wp2_with fail
  refine (deskNew w).mono ?_
  rintro e w1 ⟨dp, rfl, hS⟩
  have HS1 : Hid (LoopS w w1 dp 0 100) := hS
  have HD1 : Hid (∀ W, Below w1.heap.size w1 W → Calls Try.prog 38 #[.pointer (some ⟨dp, 0, none⟩), .agg #[.int .i64 1, .int .i64 0, .int .i64 0, .slice none 0 0, .int .i64 0, .int .i64 0, .int .i64 0, .int .i64 0, .int .i64 0, .string ⟨#[]⟩, .slice none 0 0]] W fun e w' => e = .returned (.bool true) ∧ LoopS w w' dp 4 200) := fun W hW =>
    HS1.out.deed 100 (by omega) (by omega) (DeedV.of 1 0) (DeedV.of_ok w 1 0 (by omega)) W hW
  clear hS
  go_wp2_with fail
  refine (HD1.out _ (by repeat (first | exact Below.refl _ _ | assumption | with_reducible refine below_drewN ?_ _ | refine Gr.ext ?_ _ | refine Gr.alloc ?_ _ | refine Gr.drew ?_ | (refine Gr.set ?_ (by first | (simp; done) | (simp; omega)) _)))).mono ?_
  rintro e w2 ⟨rfl, hS2⟩
  have HS2 : Hid (LoopS w w2 dp 4 200) := hS2
  clear hS2 HD1
  go_wp2_with fail
  go_loopw [4, 5] (fun ok iv wr => ∃ k : Nat, k ≤ n ∧ ok = .bool true ∧ iv = .int .i64 k ∧ Hid (LoopS w wr dp (4 * (k + 1)) (200 + sumB (l.take k)))) (fun _ iv _ => n - (intOf iv).toNat)
  case atStart => exact ⟨0, Nat.zero_le _, rfl, rfl, HS2.out⟩
  case round =>
    obtain ⟨k, hkn, rfl, rfl, HL⟩ := hrel
    by_cases hlt : k < n
    · have hlt' : k < l.length := by rw [← HNL.out]; exact hlt
      have hne : l ≠ [] := fun e => by rw [e] at hlt'; simp at hlt'
      have hrr : wr.reads 11 (.slice a l.length cap) (l.map fun x => x.1.cells) := (HR.out hne).keep fun z hz => HL.out.below.block z (reads_lt (HR.out hne) hz)
      obtain ⟨g1, o1, rfl, hg1, hr1⟩ := DeedV.at_reads hrr hlt'
      have HX : Hid (l[k].1.ok w l[k].2) := HK.out _ (List.getElem_mem hlt')
      have HSM : Hid (sumB (l.take (k + 1)) = sumB (l.take k) + l[k].2) := sumB_take l hlt'
      have HSL : Hid (sumB (l.take (k + 1)) ≤ 90000000) := Nat.le_trans (sumB_le l (k + 1)) HS.out
      generalize l[k] = xb at hr1 HX HSM
      obtain ⟨x, b⟩ := xb
      obtain ⟨x0, x1, x2, x3, x4, x5, x6, x7, x8, x9, x10⟩ := DeedV.off hr1
      have HDC : Hid (∀ W, Below wr.heap.size wr W → Calls Try.prog 38 #[.pointer (some ⟨dp, 0, none⟩), .agg #[.int .i64 x.kind, .int .i64 x.k, .int .i64 x.keep, .slice x.ra x.rs.length x.rc, .int .i64 x.S.gen, .int .i64 x.S.term, .int .i64 x.S.vote, .int .i64 x.S.base, .int .i64 x.S.bterm, .string x.S.data, .slice x.la x.S.log.length x.lc]] W fun e w' => e = .returned (.bool true) ∧ LoopS w w' dp (4 * (k + 1) + 4) (200 + sumB (l.take k) + b)) := fun W hW =>
        HL.out.deed b (by have h1 := HSM.out; have h2 := HSL.out; dsimp only at h1; omega) (by omega) x HX.out W hW
      clear hr1 hrr hne hlt'
      go_wp2_with fail
      refine (HDC.out _ (by repeat (first | exact Below.refl _ _ | assumption | with_reducible refine below_drewN ?_ _ | refine Gr.ext ?_ _ | refine Gr.alloc ?_ _ | refine Gr.drew ?_ | (refine Gr.set ?_ (by first | (simp; done) | (simp; omega)) _)))).mono ?_
      rintro e w3 ⟨rfl, hS3⟩
      have HS3 : Hid (LoopS w w3 dp (4 * (k + 1) + 4) (200 + sumB (l.take k) + b)) := hS3
      obtain ⟨kb, c4, cf, hdl, hlk⟩ := hS3.looks (by omega)
      have HLK : Hid (∀ W, Below w3.heap.size w3 W → Calls Try.prog 22 #[.pointer (some ⟨kb, 0, none⟩)] W fun e w' => e = .returned (.bool true) ∧ LoopS w w' dp (4 * (k + 1) + 4) (200 + sumB (l.take k) + b)) := hlk
      clear hS3 hlk HDC x0 x1 x2 x3 x4 x5 x6 x7 x8 x9 x10
      go_wp2_with fail
      refine (HLK.out _ (by repeat (first | exact Below.refl _ _ | assumption | with_reducible refine below_drewN ?_ _ | refine Gr.ext ?_ _ | refine Gr.alloc ?_ _ | refine Gr.drew ?_ | (refine Gr.set ?_ (by first | (simp; done) | (simp; omega)) _)))).mono ?_
      rintro e w4 ⟨rfl, hS4⟩
      have HS4 : Hid (LoopS w w4 dp (4 * (k + 1 + 1)) (200 + sumB (l.take (k + 1)))) := by
        show LoopS _ _ _ _ _
        have h1 := HSM.out
        rw [h1, show 4 * (k + 1 + 1) = 4 * (k + 1) + 4 by omega, ← Nat.add_assoc]
        exact hS4
      clear hS4 HLK c4 cf hdl
      go_wp2_with fail
      exact ⟨⟨k + 1, by omega, rfl, val_int (by omega), HS4⟩, by simp [intOf]; omega⟩
    · have hkk : k = n := by omega
      subst hkk
      have HL2 : Hid (∃ N M, N ≤ 5000000 ∧ M ≤ 95000000 ∧ LoopS w wr dp N M) := ⟨4 * (k + 1), 200 + sumB (l.take k), by omega, by have := sumB_le l k; have := HS.out; omega, HL.out⟩
      clear HL
      go_wp2_with fail
      go_loopw [7] (fun iv wr => ∃ j : Nat, j ≤ 2 ∧ iv = .int .i64 j ∧ Hid (∃ N M, N ≤ 5000000 + 20 * j ∧ M ≤ 95000000 + 500 * j ∧ LoopS w wr dp N M)) (fun iv _ => 2 - (intOf iv).toNat)
      case atStart => exact ⟨0, Nat.zero_le _, rfl, by obtain ⟨N, M, a, b, c⟩ := HL2.out; exact ⟨N, M, a, b, c⟩⟩
      case round =>
        clear HL2
        obtain ⟨j, hj2, rfl, HLX⟩ := hrel
        obtain ⟨N, M, hN, hM, hL⟩ := HLX.out
        have HL1 : Hid (LoopS w wr dp (N + 0) (M + 0)) := hL
        clear hL HLX
        by_cases hlt2 : j < 2
        · have hN9 : N ≤ 6000000 := by omega
          have hM9 : M ≤ 96000000 := by omega
          have HNM : Hid (N ≤ 5000000 + 20 * j ∧ M ≤ 95000000 + 500 * j) := ⟨hN, hM⟩
          clear hN hM
          have hj0 : (j : Int) < 2 := by omega
          have HC1 : Hid (∀ W, Below wr.heap.size wr W → Calls Try.prog 38 #[.pointer (some ⟨dp, 0, none⟩), .agg #[.int .i64 6, .int .i64 0, .int .i64 0, .slice none 0 0, .int .i64 0, .int .i64 0, .int .i64 0, .int .i64 0, .int .i64 0, .string ⟨#[]⟩, .slice none 0 0]] W fun e w' => e = .returned (.bool true) ∧ LoopS w w' dp (N + 4) (M + 100)) := fun W hW =>
            HL1.out.deed 100 (by omega) (by omega) (DeedV.of 6 0) (DeedV.of_ok w 6 0 (by omega)) W hW
          go_wp2_with fail
          refine (HC1.out _ (by repeat (first | exact Below.refl _ _ | assumption | with_reducible refine below_drewN ?_ _ | refine Gr.ext ?_ _ | refine Gr.alloc ?_ _ | refine Gr.drew ?_ | (refine Gr.set ?_ (by first | (simp; done) | (simp; omega)) _)))).mono ?_
          rintro e w11 ⟨rfl, hS1⟩
          have HL2 : Hid (LoopS w w11 dp (N + 4) (M + 100)) := hS1
          clear hS1 HC1
          have HC2 : Hid (∀ W, Below w11.heap.size w11 W → Calls Try.prog 38 #[.pointer (some ⟨dp, 0, none⟩), .agg #[.int .i64 1, .int .i64 0, .int .i64 0, .slice none 0 0, .int .i64 0, .int .i64 0, .int .i64 0, .int .i64 0, .int .i64 0, .string ⟨#[]⟩, .slice none 0 0]] W fun e w' => e = .returned (.bool true) ∧ LoopS w w' dp (N + 8) (M + 200)) := fun W hW =>
            HL2.out.deed 100 (by omega) (by omega) (DeedV.of 1 0) (DeedV.of_ok w 1 0 (by omega)) W hW
          go_wp2_with fail
          refine (HC2.out _ (by repeat (first | exact Below.refl _ _ | assumption | with_reducible refine below_drewN ?_ _ | refine Gr.ext ?_ _ | refine Gr.alloc ?_ _ | refine Gr.drew ?_ | (refine Gr.set ?_ (by first | (simp; done) | (simp; omega)) _)))).mono ?_
          rintro e w12 ⟨rfl, hS2⟩
          have HL3 : Hid (LoopS w w12 dp (N + 8) (M + 200)) := hS2
          clear hS2 HC2
          obtain ⟨xa, xN, xc, c2, cf, hdl, hxN⟩ := HL3.out.list
          obtain ⟨kk, hkk9⟩ : ∃ kk : Int, kk = (xN : Int) - 1 := ⟨_, rfl⟩
          have wk : IntKind.i64.wrap ((xN : Int) - 1) = kk := by rw [wrap_id _ (by omega) (by omega), hkk9]
          have hkb : -9223372036854775808 ≤ kk ∧ kk < 9223372036854775808 := by omega
          have HKB : Hid (-9223372036854775808 ≤ kk ∧ kk < 9223372036854775808) := hkb
          clear hkk9 hxN hkb
          have HC3 : Hid (∀ W, Below w12.heap.size w12 W → Calls Try.prog 38 #[.pointer (some ⟨dp, 0, none⟩), .agg #[.int .i64 4, .int .i64 kk, .int .i64 0, .slice none 0 0, .int .i64 0, .int .i64 0, .int .i64 0, .int .i64 0, .int .i64 0, .string ⟨#[]⟩, .slice none 0 0]] W fun e w' => e = .returned (.bool true) ∧ LoopS w w' dp (N + 12) (M + 300)) := fun W hW =>
            HL3.out.deed 100 (by omega) (by omega) (DeedV.of 4 kk) (DeedV.of_ok w 4 kk (HKB.out)) W hW
          go_wp2_with fail
          refine (HC3.out _ (by repeat (first | exact Below.refl _ _ | assumption | with_reducible refine below_drewN ?_ _ | refine Gr.ext ?_ _ | refine Gr.alloc ?_ _ | refine Gr.drew ?_ | (refine Gr.set ?_ (by first | (simp; done) | (simp; omega)) _)))).mono ?_
          rintro e w13 ⟨rfl, hS3⟩
          have HL4 : Hid (LoopS w w13 dp (N + 12) (M + 300)) := hS3
          clear hS3 HC3
          clear c2 cf hdl wk HKB
          have HC4 : Hid (∀ W, Below w13.heap.size w13 W → Calls Try.prog 38 #[.pointer (some ⟨dp, 0, none⟩), .agg #[.int .i64 7, .int .i64 0, .int .i64 0, .slice none 0 0, .int .i64 0, .int .i64 0, .int .i64 0, .int .i64 0, .int .i64 0, .string ⟨#[]⟩, .slice none 0 0]] W fun e w' => e = .returned (.bool true) ∧ LoopS w w' dp (N + 16) (M + 400)) := fun W hW =>
            HL4.out.deed 100 (by omega) (by omega) (DeedV.of 7 0) (DeedV.of_ok w 7 0 (by omega)) W hW
          go_wp2_with fail
          refine (HC4.out _ (by repeat (first | exact Below.refl _ _ | assumption | with_reducible refine below_drewN ?_ _ | refine Gr.ext ?_ _ | refine Gr.alloc ?_ _ | refine Gr.drew ?_ | (refine Gr.set ?_ (by first | (simp; done) | (simp; omega)) _)))).mono ?_
          rintro e w14 ⟨rfl, hS4⟩
          have HL5 : Hid (LoopS w w14 dp (N + 16) (M + 400)) := hS4
          clear hS4 HC4
          have HC5 : Hid (∀ W, Below w14.heap.size w14 W → Calls Try.prog 38 #[.pointer (some ⟨dp, 0, none⟩), .agg #[.int .i64 7, .int .i64 1, .int .i64 0, .slice none 0 0, .int .i64 0, .int .i64 0, .int .i64 0, .int .i64 0, .int .i64 0, .string ⟨#[]⟩, .slice none 0 0]] W fun e w' => e = .returned (.bool true) ∧ LoopS w w' dp (N + 20) (M + 500)) := fun W hW =>
            HL5.out.deed 100 (by omega) (by omega) (DeedV.of 7 1) (DeedV.of_ok w 7 1 (by omega)) W hW
          go_wp2_with fail
          refine (HC5.out _ (by repeat (first | exact Below.refl _ _ | assumption | with_reducible refine below_drewN ?_ _ | refine Gr.ext ?_ _ | refine Gr.alloc ?_ _ | refine Gr.drew ?_ | (refine Gr.set ?_ (by first | (simp; done) | (simp; omega)) _)))).mono ?_
          rintro e w15 ⟨rfl, hS5⟩
          have HL6 : Hid (LoopS w w15 dp (N + 20) (M + 500)) := hS5
          clear hS5 HC5
          go_wp2_with fail
          exact ⟨⟨j + 1, by omega, val_int (by omega), N + 20, M + 500, by have := HNM.out.1; omega, by have := HNM.out.2; omega, HL6.out⟩, by simp [intOf]; omega⟩
        · have hjj : j = 2 := by omega
          subst hjj
          obtain ⟨kb, c4, cf, hdl, hlk⟩ := HL1.out.looks (by omega)
          have HLK : Hid (∀ W, Below wr.heap.size wr W → Calls Try.prog 22 #[.pointer (some ⟨kb, 0, none⟩)] W fun e w' => e = .returned (.bool true) ∧ LoopS w w' dp (N + 0) (M + 0)) := hlk
          clear hlk hN hM
          go_wp2_with fail
          refine (HLK.out _ (by repeat (first | exact Below.refl _ _ | assumption | with_reducible refine below_drewN ?_ _ | refine Gr.ext ?_ _ | refine Gr.alloc ?_ _ | refine Gr.drew ?_ | (refine Gr.set ?_ (by first | (simp; done) | (simp; omega)) _)))).mono ?_
          rintro e w16 ⟨rfl, hS16⟩
          have HB16 : Hid (Below w.heap.size w w16) := hS16.below
          clear hS16
          go_wp2_with fail
          go_ret
          exact ⟨rfl, HB16.out⟩
end Go.Proofs.Ytcbbnmodjnnbeaa
