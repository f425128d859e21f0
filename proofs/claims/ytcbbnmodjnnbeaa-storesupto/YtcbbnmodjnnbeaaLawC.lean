/- The law's book looks at all lists that it has: they read as they were written. -/
import Derived.Test.YtcbbnmodjnnbeaaRaise
import Derived.BigQuiet
import Derived.Test.YtcbbnmodjnnbeaaOwnFnd
import Derived.Test.YtcbbnmodjnnbeaaAppL
import Derived.Test.YtcbbnmodjnnbeaaNewW
import Derived.Test.YtcbbnmodjnnbeaaSameRes
import Derived.Test.YtcbbnmodjnnbeaaLoadP
set_option linter.unusedSimpArgs false
set_option linter.unusedVariables false
namespace Go.Proofs.Ytcbbnmodjnnbeaa
open Go.RowKit

set_option maxRecDepth 100000 in
set_option maxHeartbeats 4000000 in
theorem lawLooks (w : World) (bp : Nat) (vR vF vE vC : Value) (eR eF eE eC : List Ent)
    (hbk : w.heap[bp]? = some (.cells #[vR, vF, vE, vC] 43))
    (hR : Outs w 127 3 mkRes bp vR eR) (nR : eR.length ≤ 1000000000) (bR : ∀ y ∈ eR, y.n ≤ 1000000000000 ∧ y.k ≤ 1000000000000)
    (hF : Outs w 129 3 mkFnd bp vF eF) (nF : eF.length ≤ 1000000000) (bF : ∀ y ∈ eF, y.n ≤ 1000000000000 ∧ y.k ≤ 1000000000000)
    (hE : Outs w 133 8 mkEty bp vE eE) (nE : eE.length ≤ 1000000000) (bE : ∀ y ∈ eE, y.n ≤ 1000000000000 ∧ y.k ≤ 1000000000000)
    (hC : Outs w 125 14 mkRec bp vC eC) (nC : eC.length ≤ 1000000000) (bC : ∀ y ∈ eC, y.n ≤ 1000000000000 ∧ y.k ≤ 1000000000000)
    : Calls Try.prog 22 #[.pointer (some ⟨bp, 0, none⟩)] w fun e w' => e = .returned (.bool true) ∧ Below w.heap.size w w' := by
  have hbp : bp < w.heap.size := (Array.getElem?_eq_some_iff.1 hbk).1
  obtain ⟨aR, capR, hvR⟩ := hR.own.len
  rw [List.length_map] at hvR
  subst hvR
  obtain ⟨aF, capF, hvF⟩ := hF.own.len
  rw [List.length_map] at hvF
  subst hvF
  obtain ⟨aE, capE, hvE⟩ := hE.own.len
  rw [List.length_map] at hvE
  subst hvE
  obtain ⟨aC, capC, hvC⟩ := hC.own.len
  rw [List.length_map] at hvC
  subst hvC
  have hneR := mkRes_neq
  have hneF := mkFnd_neq
  have hneE := mkEty_neq
  have hneC := mkRec_neq
  have hb0 : Below w.heap.size w w := Below.refl _ _
  go_enter Try.func22, Try.ntmps22
  obtain ⟨c0, c1, c2, c3, -⟩ := book_cells hbk
  go_wp2_with fail
  go_loopw [3] (fun iv wr => ∃ i : Nat, i ≤ eR.length ∧ iv = .int .i64 i ∧ Below w.heap.size w wr) (fun iv _ => eR.length - (intOf iv).toNat)
  case atStart => exact ⟨0, Nat.zero_le _, rfl, by assumption⟩
  case round =>
    obtain ⟨i, hi, rfl, hb⟩ := hrel
    have hbs := hb.size
    clear c0 c1 c2 c3
    obtain ⟨c0, c1, c2, c3, -⟩ := book_cells ((hb.block bp hbp).trans hbk)
    by_cases hlt : i < eR.length
    · obtain ⟨y, hy⟩ : ∃ y, eR[i]? = some y := ⟨_, List.getElem?_eq_getElem hlt⟩
      obtain ⟨g, cap, hv, hg, hc0, hc1⟩ := hR.ent hy
      have hym := List.mem_of_getElem? hy
      have hyn := bR y hym
      have hyr := hR.rd y hym
      obtain ⟨yv, yn, yk⟩ := y
      obtain ⟨ya, ycap, hyv⟩ := hyr.len
      simp only [List.length_replicate] at hyv hyn
      simp only at hc0 hc1 hyr
      rw [hyv] at hc0 hyr
      clear hy hym hyv
      injection hv with hv1 hv2 hv3
      subst hv1
      have d0 : wr.cell? ⟨g, i * 2, none⟩ = some (.slice ya yn ycap) := (hb.cell (p := ⟨g, i * 2, none⟩) hg).trans hc0
      have d1 : wr.cell? ⟨g, i * 2 + 1, none⟩ = some (.int .i64 yk) := (hb.cell (p := ⟨g, i * 2 + 1, none⟩) hg).trans hc1
      go_wp2_with fail
      go_loopw [5] (fun jv wr2 => ∃ j : Nat, j ≤ yn ∧ jv = .int .i64 j ∧ Below w.heap.size w wr2 ∧ wr2.heap[wr.heap.size]? = some (.cells (mkRes yk).toArray 72)) (fun jv _ => yn - (intOf jv).toNat)
      case atStart => exact ⟨0, Nat.zero_le _, rfl, hb.alloc hb.size _, heap_alloc_new wr _⟩
      case round =>
        obtain ⟨j, hj, rfl, hb2, hm⟩ := hrel
        clear c0 c1 c2 c3 d0 d1
        obtain ⟨c0, c1, c2, c3, -⟩ := book_cells ((hb2.block bp hbp).trans hbk)
        have d0 : wr.cell? ⟨g, i * 2, none⟩ = some (.slice ya yn ycap) := (hb2.cell (p := ⟨g, i * 2, none⟩) hg).trans hc0
        by_cases hlj : j < yn
        · obtain ⟨g2, off, cap2, hv2, hg2, hr2⟩ := reads_at hyr hlj
          injection hv2 with hw1 hw2 hw3
          subst hw1
          obtain ⟨r0, r1, r2⟩ := mkRes_off (range_below hr2 hb2 hg2)
          obtain ⟨m0, m1, m2⟩ := mkRes_at hm
          clear hr2 hyr
          go_wp2_with fail
          go_quiet (fail)
          go_wp2_with fail
          exact ⟨⟨j + 1, by omega, val_int (by omega), below_drewN hb2 nq, by assumption⟩, by simp [intOf]; omega⟩
        · have hjj : j = yn := by omega
          subst hjj
          go_wp2_with fail
          exact ⟨⟨i + 1, by omega, val_int (by omega), hb2⟩, by simp [intOf]; omega⟩
    · have hii : i = eR.length := by omega
      subst hii
      go_wp2_with fail
      go_loopw [6] (fun iv wr => ∃ i : Nat, i ≤ eF.length ∧ iv = .int .i64 i ∧ Below w.heap.size w wr) (fun iv _ => eF.length - (intOf iv).toNat)
      case atStart => exact ⟨0, Nat.zero_le _, rfl, by assumption⟩
      case round =>
        obtain ⟨i, hi, rfl, hb⟩ := hrel
        have hbs := hb.size
        clear c0 c1 c2 c3
        obtain ⟨c0, c1, c2, c3, -⟩ := book_cells ((hb.block bp hbp).trans hbk)
        by_cases hlt : i < eF.length
        · obtain ⟨y, hy⟩ : ∃ y, eF[i]? = some y := ⟨_, List.getElem?_eq_getElem hlt⟩
          obtain ⟨g, cap, hv, hg, hc0, hc1⟩ := hF.ent hy
          have hym := List.mem_of_getElem? hy
          have hyn := bF y hym
          have hyr := hF.rd y hym
          obtain ⟨yv, yn, yk⟩ := y
          obtain ⟨ya, ycap, hyv⟩ := hyr.len
          simp only [List.length_replicate] at hyv hyn
          simp only at hc0 hc1 hyr
          rw [hyv] at hc0 hyr
          clear hy hym hyv
          injection hv with hv1 hv2 hv3
          subst hv1
          have d0 : wr.cell? ⟨g, i * 2, none⟩ = some (.slice ya yn ycap) := (hb.cell (p := ⟨g, i * 2, none⟩) hg).trans hc0
          have d1 : wr.cell? ⟨g, i * 2 + 1, none⟩ = some (.int .i64 yk) := (hb.cell (p := ⟨g, i * 2 + 1, none⟩) hg).trans hc1
          go_wp2_with fail
          go_loopw [8] (fun jv wr2 => ∃ j : Nat, j ≤ yn ∧ jv = .int .i64 j ∧ Below w.heap.size w wr2 ∧ wr2.heap[wr.heap.size]? = some (.cells (mkFnd yk).toArray 131)) (fun jv _ => yn - (intOf jv).toNat)
          case atStart => exact ⟨0, Nat.zero_le _, rfl, hb.alloc hb.size _, heap_alloc_new wr _⟩
          case round =>
            obtain ⟨j, hj, rfl, hb2, hm⟩ := hrel
            clear c0 c1 c2 c3 d0 d1
            obtain ⟨c0, c1, c2, c3, -⟩ := book_cells ((hb2.block bp hbp).trans hbk)
            have d0 : wr.cell? ⟨g, i * 2, none⟩ = some (.slice ya yn ycap) := (hb2.cell (p := ⟨g, i * 2, none⟩) hg).trans hc0
            by_cases hlj : j < yn
            · obtain ⟨g2, off, cap2, hv2, hg2, hr2⟩ := reads_at hyr hlj
              injection hv2 with hw1 hw2 hw3
              subst hw1
              obtain ⟨r0, r1, r2⟩ := mkFnd_off (range_below hr2 hb2 hg2)
              obtain ⟨m0, m1, m2⟩ := mkFnd_at hm
              clear hr2 hyr
              go_wp2_with fail
              go_quiet (fail)
              go_wp2_with fail
              exact ⟨⟨j + 1, by omega, val_int (by omega), below_drewN hb2 nq, by assumption⟩, by simp [intOf]; omega⟩
            · have hjj : j = yn := by omega
              subst hjj
              go_wp2_with fail
              exact ⟨⟨i + 1, by omega, val_int (by omega), hb2⟩, by simp [intOf]; omega⟩
        · have hii : i = eF.length := by omega
          subst hii
          go_wp2_with fail
          go_loopw [9] (fun iv wr => ∃ i : Nat, i ≤ eE.length ∧ iv = .int .i64 i ∧ Below w.heap.size w wr) (fun iv _ => eE.length - (intOf iv).toNat)
          case atStart => exact ⟨0, Nat.zero_le _, rfl, by assumption⟩
          case round =>
            obtain ⟨i, hi, rfl, hb⟩ := hrel
            have hbs := hb.size
            clear c0 c1 c2 c3
            obtain ⟨c0, c1, c2, c3, -⟩ := book_cells ((hb.block bp hbp).trans hbk)
            by_cases hlt : i < eE.length
            · obtain ⟨y, hy⟩ : ∃ y, eE[i]? = some y := ⟨_, List.getElem?_eq_getElem hlt⟩
              obtain ⟨g, cap, hv, hg, hc0, hc1⟩ := hE.ent hy
              have hym := List.mem_of_getElem? hy
              have hyn := bE y hym
              have hyr := hE.rd y hym
              obtain ⟨yv, yn, yk⟩ := y
              obtain ⟨ya, ycap, hyv⟩ := hyr.len
              simp only [List.length_replicate] at hyv hyn
              simp only at hc0 hc1 hyr
              rw [hyv] at hc0 hyr
              clear hy hym hyv
              injection hv with hv1 hv2 hv3
              subst hv1
              have d0 : wr.cell? ⟨g, i * 2, none⟩ = some (.slice ya yn ycap) := (hb.cell (p := ⟨g, i * 2, none⟩) hg).trans hc0
              have d1 : wr.cell? ⟨g, i * 2 + 1, none⟩ = some (.int .i64 yk) := (hb.cell (p := ⟨g, i * 2 + 1, none⟩) hg).trans hc1
              go_wp2_with fail
              go_loopw [11] (fun jv wr2 => ∃ j : Nat, j ≤ yn ∧ jv = .int .i64 j ∧ Below w.heap.size w wr2 ∧ wr2.heap[wr.heap.size]? = some (.cells (mkEty yk).toArray 135)) (fun jv _ => yn - (intOf jv).toNat)
              case atStart => exact ⟨0, Nat.zero_le _, rfl, hb.alloc hb.size _, heap_alloc_new wr _⟩
              case round =>
                obtain ⟨j, hj, rfl, hb2, hm⟩ := hrel
                clear c0 c1 c2 c3 d0 d1
                obtain ⟨c0, c1, c2, c3, -⟩ := book_cells ((hb2.block bp hbp).trans hbk)
                have d0 : wr.cell? ⟨g, i * 2, none⟩ = some (.slice ya yn ycap) := (hb2.cell (p := ⟨g, i * 2, none⟩) hg).trans hc0
                by_cases hlj : j < yn
                · obtain ⟨g2, off, cap2, hv2, hg2, hr2⟩ := reads_at hyr hlj
                  injection hv2 with hw1 hw2 hw3
                  subst hw1
                  obtain ⟨r0, r1, r2, r3, r4, r5, r6, r7⟩ := mkEty_off (range_below hr2 hb2 hg2)
                  obtain ⟨m0, m1, m2, m3, m4, m5, m6, m7⟩ := mkEty_at hm
                  clear hr2 hyr
                  go_wp2_with fail
                  go_quiet (fail)
                  go_wp2_with fail
                  exact ⟨⟨j + 1, by omega, val_int (by omega), below_drewN hb2 nq, by assumption⟩, by simp [intOf]; omega⟩
                · have hjj : j = yn := by omega
                  subst hjj
                  go_wp2_with fail
                  exact ⟨⟨i + 1, by omega, val_int (by omega), hb2⟩, by simp [intOf]; omega⟩
            · have hii : i = eE.length := by omega
              subst hii
              go_wp2_with fail
              go_loopw [12] (fun iv wr => ∃ i : Nat, i ≤ eC.length ∧ iv = .int .i64 i ∧ Below w.heap.size w wr) (fun iv _ => eC.length - (intOf iv).toNat)
              case atStart => exact ⟨0, Nat.zero_le _, rfl, by assumption⟩
              case round =>
                obtain ⟨i, hi, rfl, hb⟩ := hrel
                have hbs := hb.size
                clear c0 c1 c2 c3
                obtain ⟨c0, c1, c2, c3, -⟩ := book_cells ((hb.block bp hbp).trans hbk)
                by_cases hlt : i < eC.length
                · obtain ⟨y, hy⟩ : ∃ y, eC[i]? = some y := ⟨_, List.getElem?_eq_getElem hlt⟩
                  obtain ⟨g, cap, hv, hg, hc0, hc1⟩ := hC.ent hy
                  have hym := List.mem_of_getElem? hy
                  have hyn := bC y hym
                  have hyr := hC.rd y hym
                  obtain ⟨yv, yn, yk⟩ := y
                  obtain ⟨ya, ycap, hyv⟩ := hyr.len
                  simp only [List.length_replicate] at hyv hyn
                  simp only at hc0 hc1 hyr
                  rw [hyv] at hc0 hyr
                  clear hy hym hyv
                  injection hv with hv1 hv2 hv3
                  subst hv1
                  have d0 : wr.cell? ⟨g, i * 2, none⟩ = some (.slice ya yn ycap) := (hb.cell (p := ⟨g, i * 2, none⟩) hg).trans hc0
                  have d1 : wr.cell? ⟨g, i * 2 + 1, none⟩ = some (.int .i64 yk) := (hb.cell (p := ⟨g, i * 2 + 1, none⟩) hg).trans hc1
                  go_wp2_with fail
                  go_loopw [14] (fun jv wr2 => ∃ j : Nat, j ≤ yn ∧ jv = .int .i64 j ∧ Below w.heap.size w wr2 ∧ wr2.heap[wr.heap.size]? = some (.cells (mkRec yk).toArray 25)) (fun jv _ => yn - (intOf jv).toNat)
                  case atStart => exact ⟨0, Nat.zero_le _, rfl, hb.alloc hb.size _, heap_alloc_new wr _⟩
                  case round =>
                    obtain ⟨j, hj, rfl, hb2, hm⟩ := hrel
                    clear c0 c1 c2 c3 d0 d1
                    obtain ⟨c0, c1, c2, c3, -⟩ := book_cells ((hb2.block bp hbp).trans hbk)
                    have d0 : wr.cell? ⟨g, i * 2, none⟩ = some (.slice ya yn ycap) := (hb2.cell (p := ⟨g, i * 2, none⟩) hg).trans hc0
                    by_cases hlj : j < yn
                    · obtain ⟨g2, off, cap2, hv2, hg2, hr2⟩ := reads_at hyr hlj
                      injection hv2 with hw1 hw2 hw3
                      subst hw1
                      obtain ⟨r0, r1, r2, r3, r4, r5, r6, r7, r8, r9, r10, r11, r12, r13⟩ := mkRec_off (range_below hr2 hb2 hg2)
                      obtain ⟨m0, m1, m2, m3, m4, m5, m6, m7, m8, m9, m10, m11, m12, m13⟩ := mkRec_at hm
                      clear hr2 hyr
                      go_wp2_with fail
                      go_quiet (fail)
                      go_wp2_with fail
                      exact ⟨⟨j + 1, by omega, val_int (by omega), below_drewN hb2 nq, by assumption⟩, by simp [intOf]; omega⟩
                    · have hjj : j = yn := by omega
                      subst hjj
                      go_wp2_with fail
                      exact ⟨⟨i + 1, by omega, val_int (by omega), hb2⟩, by simp [intOf]; omega⟩
                · have hii : i = eC.length := by omega
                  subst hii
                  go_wp2_with fail
                  go_ret
                  exact ⟨rfl, hb⟩
end Go.Proofs.Ytcbbnmodjnnbeaa
/- The law on stores: the book. -/
set_option linter.unusedSimpArgs false
set_option linter.unusedVariables false
namespace Go.Proofs.Ytcbbnmodjnnbeaa
open Go.RowKit

structure BookAt (w : World) (kb : Nat) (vR vF : Value) (eR eF : List Ent) (n : Nat) : Prop where
  blk : w.heap[kb]? = some (.cells #[vR, vF, .slice none 0 0, .slice none 0 0] 43)
  hR : Outs w 127 3 mkRes kb vR eR
  hF : Outs w 129 3 mkFnd kb vF eF
  dis : ∀ x, footE vR eR x → ¬ footE vF eF x
  nR : eR.length ≤ n
  nF : eF.length ≤ n
  bR : ∀ y ∈ eR, y.n ≤ 10000000 ∧ y.k ≤ n
  bF : ∀ y ∈ eF, y.n ≤ 10000000 ∧ y.k ≤ n
def footBk (kb : Nat) (vR vF : Value) (eR eF : List Ent) (x : Nat) : Prop := x = kb ∨ footE vR eR x ∨ footE vF eF x
structure BookIn (w : World) (kb : Nat) (F : Nat → Prop) (n : Nat) : Prop where
  lt : ∀ x, F x → x < w.heap.size
  is : ∃ vR vF eR eF, BookAt w kb vR vF eR eF n ∧ ∀ x, footBk kb vR vF eR eF x → F x
section
variable {w w' : World} {kb n : Nat} {vR vF : Value} {eR eF : List Ent}
theorem BookAt.lt (h : BookAt w kb vR vF eR eF n) : kb < w.heap.size := (Array.getElem?_eq_some_iff.1 h.blk).1
theorem BookAt.foot_lt (h : BookAt w kb vR vF eR eF n) {x : Nat} (hx : footBk kb vR vF eR eF x) : x < w.heap.size := by
  rcases hx with rfl | hx | hx
  · exact h.lt
  · exact h.hR.foot_lt hx
  · exact h.hF.foot_lt hx
theorem BookAt.beside {S : Nat → Prop} (h : BookAt w kb vR vF eR eF n) (ht : w.turned w' S) (hn : ∀ x, footBk kb vR vF eR eF x → ¬ S x) : BookAt w' kb vR vF eR eF n :=
  ⟨(ht.block kb h.lt (hn kb (.inl rfl))).trans h.blk, h.hR.turned ht fun x hx => hn x (.inr (.inl hx)), h.hF.turned ht fun x hx => hn x (.inr (.inr hx)), h.dis, h.nR, h.nF, h.bR, h.bF⟩
theorem BookAt.up {m : Nat} (h : BookAt w kb vR vF eR eF n) (hm : n ≤ m) : BookAt w kb vR vF eR eF m :=
  ⟨h.blk, h.hR, h.hF, h.dis, Nat.le_trans h.nR hm, Nat.le_trans h.nF hm, fun y hy => ⟨(h.bR y hy).1, Nat.le_trans (h.bR y hy).2 hm⟩, fun y hy => ⟨(h.bF y hy).1, Nat.le_trans (h.bF y hy).2 hm⟩⟩
theorem BookAt.isIn (h : BookAt w kb vR vF eR eF n) : BookIn w kb (footBk kb vR vF eR eF) n := ⟨fun _ hx => h.foot_lt hx, vR, vF, eR, eF, h, fun _ hx => hx⟩
theorem BookIn.beside {F S : Nat → Prop} (h : BookIn w kb F n) (ht : w.turned w' S) (hn : ∀ x, F x → ¬ S x) : BookIn w' kb F n := by
  obtain ⟨vR, vF, eR, eF, h1, h2⟩ := h.is
  exact ⟨fun x hx => Nat.lt_of_lt_of_le (h.lt x hx) ht.size, vR, vF, eR, eF, h1.beside ht fun x hx => hn x (h2 x hx), h2⟩
theorem BookIn.up {F : Nat → Prop} {m : Nat} (h : BookIn w kb F n) (hm : n ≤ m) : BookIn w kb F m := by
  obtain ⟨vR, vF, eR, eF, h1, h2⟩ := h.is
  exact ⟨h.lt, vR, vF, eR, eF, h1.up hm, h2⟩
end
theorem BookAt.new (w : World) : BookAt (w.alloc (.cells #[.slice none 0 0, .slice none 0 0, .slice none 0 0, .slice none 0 0] 43)) w.heap.size (.slice none 0 0) (.slice none 0 0) [] [] 0 :=
  ⟨heap_alloc_new w _, Outs.nil _ _ _ _ _, Outs.nil _ _ _ _ _, fun x hx => absurd hx (foot_nil x), Nat.le_refl _, Nat.le_refl _, (fun y hy => by cases hy), (fun y hy => by cases hy)⟩
theorem bookRes (w : World) (kb n : Nat) (vR vF : Value) (eR eF : List Ent) (h : BookAt w kb vR vF eR eF n) (al : Option Addr) (cap : Nat) (cs : List (List Value))
    (hl : w.ownL 72 3 (.slice al cs.length cap) cs) (hsep : ∀ k, (Value.slice al cs.length cap).ownBlock = some k → ¬ footBk kb vR vF eR eF k) (hc : cs.length ≤ 9000000) (hn : n ≤ 900000000) :
    Calls Try.prog 66 #[.pointer (some ⟨kb, 0, none⟩), .slice al cs.length cap] w fun e w' => e = .returned (.tuple #[]) ∧ ∃ F, BookIn w' kb F (n + 4) ∧ (∀ x, F x → footBk kb vR vF eR eF x ∨ (Value.slice al cs.length cap).ownBlock = some x ∨ w.heap.size ≤ x) ∧ w.turned w' (fun x => footBk kb vR vF eR eF x ∨ (Value.slice al cs.length cap).ownBlock = some x) := by
  refine (ownResults w kb vF (.slice none 0 0) (.slice none 0 0) vR eR al cap cs h.blk h.hR hl (fun k hk => ⟨fun e => hsep k hk (.inl e), fun e => hsep k hk (.inr (.inl e))⟩) (by omega) (by have := h.nR; omega)).mono ?_
  rintro e w' ⟨rfl, vb, new, hbk, hO, hnl, hny, hf, ht⟩
  have hk : ∀ x, footE vF eF x → ¬ (x = kb ∨ vR.ownBlock = some x ∨ (Value.slice al cs.length cap).ownBlock = some x) := by
    rintro x hx (h1 | h1 | h1)
    · exact h.hF.foot_bp hx h1
    · exact h.dis x (.inl h1) hx
    · exact hsep x h1 (.inr (.inr hx))
  have hA : BookAt w' kb vb vF (eR ++ new) eF (n + 4) := by
    refine ⟨hbk, hO, h.hF.turned ht hk, fun x hx hy => ?_, by rw [List.length_append]; have := h.nR; omega, by have := h.nF; omega, fun y hy => ?_, fun y hy => ⟨(h.bF y hy).1, by have := (h.bF y hy).2; omega⟩⟩
    · have h2 := h.hF.foot_lt hy
      rcases hf x hx with h1 | h1 | h1
      · exact h.dis x h1 hy
      · exact hsep x h1 (.inr (.inr hy))
      · omega
    · rcases List.mem_append.1 hy with hy | hy
      · exact ⟨(h.bR y hy).1, by have := (h.bR y hy).2; omega⟩
      · have := hny y hy; have := h.nR; omega
  refine ⟨rfl, _, hA.isIn, fun x hx => ?_, ht.mono fun k _ hk => ?_⟩
  · rcases hx with rfl | hx | hx
    · exact .inl (.inl rfl)
    · rcases hf x hx with h1 | h1 | h1
      · exact .inl (.inr (.inl h1))
      · exact .inr (.inl h1)
      · exact .inr (.inr h1)
    · exact .inl (.inr (.inr hx))
  · rcases hk with h1 | h1 | h1
    · exact .inl (.inl h1)
    · exact .inl (.inr (.inl (.inl h1)))
    · exact .inr h1
theorem bookFnd (w : World) (kb n : Nat) (vR vF : Value) (eR eF : List Ent) (h : BookAt w kb vR vF eR eF n) (al : Option Addr) (cap : Nat) (cs : List (List Value))
    (hl : w.ownL 131 3 (.slice al cs.length cap) cs) (hsep : ∀ k, (Value.slice al cs.length cap).ownBlock = some k → ¬ footBk kb vR vF eR eF k) (hc : cs.length ≤ 9000000) (hn : n ≤ 900000000) :
    Calls Try.prog 68 #[.pointer (some ⟨kb, 0, none⟩), .slice al cs.length cap] w fun e w' => e = .returned (.tuple #[]) ∧ ∃ F, BookIn w' kb F (n + 4) ∧ (∀ x, F x → footBk kb vR vF eR eF x ∨ (Value.slice al cs.length cap).ownBlock = some x ∨ w.heap.size ≤ x) ∧ w.turned w' (fun x => footBk kb vR vF eR eF x ∨ (Value.slice al cs.length cap).ownBlock = some x) := by
  refine (ownFounds w kb vR (.slice none 0 0) (.slice none 0 0) vF eF al cap cs h.blk h.hF hl (fun k hk => ⟨fun e => hsep k hk (.inl e), fun e => hsep k hk (.inr (.inr e))⟩) (by omega) (by have := h.nF; omega)).mono ?_
  rintro e w' ⟨rfl, vb, new, hbk, hO, hnl, hny, hf, ht⟩
  have hk : ∀ x, footE vR eR x → ¬ (x = kb ∨ vF.ownBlock = some x ∨ (Value.slice al cs.length cap).ownBlock = some x) := by
    rintro x hx (h1 | h1 | h1)
    · exact h.hR.foot_bp hx h1
    · exact h.dis x hx (.inl h1)
    · exact hsep x h1 (.inr (.inl hx))
  have hA : BookAt w' kb vR vb eR (eF ++ new) (n + 4) := by
    refine ⟨hbk, h.hR.turned ht hk, hO, fun x hx hy => ?_, by have := h.nR; omega, by rw [List.length_append]; have := h.nF; omega, fun y hy => ⟨(h.bR y hy).1, by have := (h.bR y hy).2; omega⟩, fun y hy => ?_⟩
    · have h2 := h.hR.foot_lt hx
      rcases hf x hy with h1 | h1 | h1
      · exact h.dis x hx h1
      · exact hsep x h1 (.inr (.inl hx))
      · omega
    · rcases List.mem_append.1 hy with hy | hy
      · exact ⟨(h.bF y hy).1, by have := (h.bF y hy).2; omega⟩
      · have := hny y hy; have := h.nF; omega
  refine ⟨rfl, _, hA.isIn, fun x hx => ?_, ht.mono fun k _ hk => ?_⟩
  · rcases hx with rfl | hx | hx
    · exact .inl (.inl rfl)
    · exact .inl (.inr (.inl hx))
    · rcases hf x hx with h1 | h1 | h1
      · exact .inl (.inr (.inr h1))
      · exact .inr (.inl h1)
      · exact .inr (.inr h1)
  · rcases hk with h1 | h1 | h1
    · exact .inl (.inl h1)
    · exact .inl (.inr (.inr (.inl h1)))
    · exact .inr h1
theorem bookLooks (w : World) (kb n : Nat) (F : Nat → Prop) (h : BookIn w kb F n) (hn : n ≤ 900000000) :
    Calls Try.prog 22 #[.pointer (some ⟨kb, 0, none⟩)] w fun e w' => e = .returned (.bool true) ∧ Below w.heap.size w w' := by
  obtain ⟨vR, vF, eR, eF, h, _⟩ := h.is
  exact lawLooks w kb vR vF _ _ eR eF [] [] h.blk h.hR (by have := h.nR; omega) (fun y hy => by have := h.bR y hy; omega) h.hF (by have := h.nF; omega) (fun y hy => by have := h.bF y hy; omega) (Outs.nil _ _ _ _ _) (by simp) (by intro y hy; cases hy) (Outs.nil _ _ _ _ _) (by simp) (by intro y hy; cases hy)
end Go.Proofs.Ytcbbnmodjnnbeaa
/- The law's lists of commands: lent, spoilt. -/
set_option linter.unusedSimpArgs false
set_option linter.unusedVariables false
namespace Go.Proofs.Ytcbbnmodjnnbeaa
open Go.RowKit

def mkC (n : Int) : Cmd := ⟨n, ⟨#[]⟩, ⟨#[]⟩, ⟨#[]⟩, 0, 0, 0⟩
abbrev zCmd : List Value := [.int .i64 0, .string ⟨#[]⟩, .string ⟨#[]⟩, .string ⟨#[]⟩, .int .i64 0, .int .i64 0, .int .i64 0]
theorem cmd_one (c : Cmd) : ∀ u ∈ c.cells, u.oneCell' = true := by
  intro u hu
  simp only [Cmd.cells, List.mem_cons, List.not_mem_nil, or_false] at hu
  rcases hu with rfl | rfl | rfl | rfl | rfl | rfl | rfl <;> rfl
theorem set_rep {α : Type} (a : List α) (x y : α) (j n : Nat) (hj : j < n) : (a ++ List.replicate j x ++ List.replicate (n - j) y).set (a.length + j) x = a ++ List.replicate (j + 1) x ++ List.replicate (n - (j + 1)) y := by
  have e : (a ++ List.replicate j x).length = a.length + j := by simp
  rw [List.set_append_right _ _ (by omega), e, Nat.sub_self, show n - j = (n - (j + 1)) + 1 by omega, List.replicate_succ, List.set_cons_zero, List.replicate_succ', List.append_assoc, List.append_assoc, List.append_assoc]
  rfl
set_option maxRecDepth 100000 in
set_option maxHeartbeats 2000000 in
theorem lawLent (w : World) (a : Option Addr) (cap : Nat) (l : List Cmd) (hr : l ≠ [] → w.reads 7 (.slice a l.length cap) (l.map Cmd.cells)) (hn : l.length ≤ 1048576) :
    Calls Try.prog 62 #[.slice a l.length cap] w fun e w' => ∃ g, e = .returned (.slice (some ⟨g, 0, none⟩) (l.length + 8) (l.length + 8)) ∧ w.heap.size ≤ g ∧ w'.ownL 23 7 (.slice (some ⟨g, 0, none⟩) (l.length + 8) (l.length + 8)) ((l ++ List.replicate 8 (mkC (-77))).map Cmd.cells) ∧ Below w.heap.size w w' := by
  have HN : Hid (l.length ≤ 1048576) := hn
  go_enter Try.func62, Try.ntmps62
  go_wp2_with (at_make; refine Held.out ?_)
  unfold Held
  obtain ⟨i0, hi0, hz0, hsz0, hby0⟩ := info_parts infoCmd
  refine wpList_make_full _ rfl _ _ 59 rfl 0 23 i0 _ 7 Try.underlying59 hi0 hz0 hsz0 .i64 .i64 _ _ (l.length + 8) rfl rfl (by omega) (by omega) (by rw [hby0]; omega) (by unfold maxLen; omega) (Nat.zero_le _) ?_
  intro w2 ho2 hg2
  have ho2' : w2.ownL 23 7 (.slice (some ⟨w.heap.size, 0, none⟩) (l.length + 8) (l.length + 8)) (List.replicate (l.length + 8) zCmd) := made_own (z := #[.int .i64 0, .string ⟨#[]⟩, .string ⟨#[]⟩, .string ⟨#[]⟩, .int .i64 0, .int .i64 0, .int .i64 0]) (by decide) ho2
  have hB2 : Below w.heap.size w w2 := Below.grown (Below.refl _ _) hg2 (Nat.le_refl _) (by simp)
  clear ho2
  obtain ⟨g, hg0⟩ : ∃ g, w.heap.size = g := ⟨_, rfl⟩
  have HG : Hid (w.heap.size ≤ g) := by show _ ≤ _; omega
  rw [hg0] at ho2' ⊢
  go_frame
  have hR2 : l.map Cmd.cells ≠ [] → w2.reads 7 (.slice a l.length cap) (l.map Cmd.cells) := fun hne => readsGr (hr (fun e => hne (by rw [e]; rfl))) hB2
  have hrl : (List.replicate (l.length + 8) zCmd).length = l.length + 8 := List.length_replicate
  go_wp2_with (refine wpL_copy rfl _ _ _ _ rfl 23 7 Try.underlying59 (by kernel_rfl) g (l.length + 8) (l.length + 8) a l.length cap rfl rfl 23 (List.replicate (l.length + 8) zCmd) (l.map Cmd.cells) hrl (List.length_map _) (by omega) ho2' hR2 ?z1 ?z2)
  case z1 =>
    intro x hx u hu
    obtain ⟨c, _, rfl⟩ := List.mem_map.1 hx
    exact cmd_one c u hu
  intro w3 ho3 hg3
  have HO3 : Hid (w3.ownL 23 7 (.slice (some ⟨g, 0, none⟩) (l.length + 8) (l.length + 8)) (l.map Cmd.cells ++ List.replicate 0 (mkC (-77)).cells ++ List.replicate (8 - 0) zCmd)) := by
    show World.ownL _ _ _ _ _
    rw [List.replicate_zero, List.append_nil]
    exact ho3
  have HB3 : Hid (Below w.heap.size w w3) := hB2.trans ⟨hg3.g.os, hg3.g.tape, hg3.g.output, hg3.g.size, fun k hk => hg3.g.block k (by have := hB2.size; omega) fun e => by cases e; have h2 : g < w.heap.size := hk; have := HG.out; omega⟩
  clear ho3 hg3 hB2 hg2 ho2' hR2 hrl hr hg0
  go_wp2_with fail
  go_loopw [4] (fun iv wr => ∃ j : Nat, j ≤ 8 ∧ iv = .int .i64 ((l.length + j : Nat) : Int) ∧ Hid (wr.ownL 23 7 (.slice (some ⟨g, 0, none⟩) (l.length + 8) (l.length + 8)) (l.map Cmd.cells ++ List.replicate j (mkC (-77)).cells ++ List.replicate (8 - j) zCmd)) ∧ Hid (Below w.heap.size w wr)) (fun iv _ => l.length + 8 - (intOf iv).toNat)
  case atStart => exact ⟨0, by omega, rfl, HO3, HB3⟩
  case round =>
    clear HO3 HB3
    obtain ⟨j, hj, rfl, HO, HB⟩ := hrel
    by_cases hlt : j < 8
    · have hj1 : (j : Int) < 8 := by omega
      have ho1 := HO.out
      have hlen : l.length + j < (l.map Cmd.cells ++ List.replicate j (mkC (-77)).cells ++ List.replicate (8 - j) zCmd).length := by simp; omega
      go_wp2_with (refine wpL_store rfl 23 _ _ rfl 23 7 _ _ ho1 (l.length + j) hlen g (l.length + 8) (l.length + 8) rfl _ rfl rfl #[.int .i64 (-77), .string ⟨#[]⟩, .string ⟨#[]⟩, .string ⟨#[]⟩, .int .i64 0, .int .i64 0, .int .i64 0] rfl (by kernel_rfl) rfl (cmd_one (mkC (-77))) ?_; intro w4 ho4 hg4)
      have e := set_rep (l.map Cmd.cells) (mkC (-77)).cells zCmd j 8 hlt
      rw [List.length_map] at e
      refine ⟨⟨j + 1, by omega, val_int (by omega), ?_, HB.out.trans ⟨hg4.g.os, hg4.g.tape, hg4.g.output, hg4.g.size, fun k hk => hg4.g.block k (by have := HB.out.size; omega) fun e => by cases e; have h2 : g < w.heap.size := hk; have := HG.out; omega⟩⟩, by simp [intOf]; omega⟩
      show World.ownL _ _ _ _ _
      rw [← e]; exact ho4
    · have hjj : j = 8 := by omega
      subst hjj
      go_wp2_with fail
      refine bodyPost_ret (v := .slice (some ⟨g, 0, none⟩) (l.length + 8) (l.length + 8)) (by simp [results, Try.results62, go_sem]) rfl ⟨g, rfl, HG.out, ?_, HB.out⟩
      have h := HO.out
      rw [Nat.sub_self, List.replicate_zero, List.append_nil] at h
      rw [List.map_append, List.map_replicate]; exact h
set_option maxRecDepth 100000 in
set_option maxHeartbeats 2000000 in
theorem lawSpoil (w : World) (g n : Nat) (cs : List (List Value)) (hn : cs.length = n) (ho : w.ownL 23 7 (.slice (some ⟨g, 0, none⟩) n n) cs) (hn2 : n ≤ 10000000) :
    Calls Try.prog 65 #[.slice (some ⟨g, 0, none⟩) n n] w fun e w' => e = .returned (.tuple #[]) ∧ w.turned w' (fun x => x = g) := by
  go_enter Try.func65, Try.ntmps65
  go_wp2_with fail
  go_loopw [2] (fun iv wr => ∃ (i : Nat) (cs' : List (List Value)), i ≤ n ∧ cs'.length = n ∧ iv = .int .i64 i ∧ wr.ownL 23 7 (.slice (some ⟨g, 0, none⟩) n n) cs' ∧ w.turned wr (fun x => x = g)) (fun iv _ => n - (intOf iv).toNat)
  case atStart => exact ⟨0, cs, Nat.zero_le _, hn, rfl, ho, World.turned.refl _ _⟩
  case round =>
    obtain ⟨i, cs', hi, hl, rfl, ho1, ht1⟩ := hrel
    by_cases hlt : i < n
    · have hi1 : (i : Int) < n := by omega
      clear ho hn
      go_wp2_with (refine wpL_store rfl 23 _ _ rfl 23 7 _ _ ho1 i (by rw [hl]; exact hlt) g n n rfl _ rfl rfl #[.int .i64 (-99), .string ⟨#[]⟩, .string ⟨#[]⟩, .string ⟨#[]⟩, .int .i64 0, .int .i64 0, .int .i64 0] rfl (by kernel_rfl) rfl (cmd_one (mkC (-99))) ?_; intro w2 ho2 hg2)
      exact ⟨⟨i + 1, _, by omega, by rw [List.length_set]; exact hl, val_int (by omega), ho2, ht1.grew hg2 (fun k _ hk => by cases hk; rfl)⟩, by simp [intOf]; omega⟩
    · have hii : i = n := by omega
      subst hii
      go_wp2_with fail
      go_end0
      exact ⟨rfl, ht1⟩
end Go.Proofs.Ytcbbnmodjnnbeaa
