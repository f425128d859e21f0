/- The law's book looks at all lists that it has: they read as they were written. -/
import Derived.Test.YthoaomaknegblaaMarks
import Derived.BigQuiet
set_option linter.unusedSimpArgs false
set_option linter.unusedVariables false
namespace Go.Proofs.Ythoaomaknegblaa
open Go.RowKit

set_option maxRecDepth 100000 in
set_option maxHeartbeats 4000000 in
theorem lawLooks (w : World) (bp : Nat) (vR vF vE vC : Value) (eR eF eE eC : List Ent)
    (hbk : w.heap[bp]? = some (.cells #[vR, vF, vE, vC] 43))
    (hR : Outs w 99 3 mkRes bp vR eR) (nR : eR.length ≤ 1000000000) (bR : ∀ y ∈ eR, y.n ≤ 1000000000000 ∧ y.k ≤ 1000000000000)
    (hF : Outs w 101 3 mkFnd bp vF eF) (nF : eF.length ≤ 1000000000) (bF : ∀ y ∈ eF, y.n ≤ 1000000000000 ∧ y.k ≤ 1000000000000)
    (hE : Outs w 106 8 mkEty bp vE eE) (nE : eE.length ≤ 1000000000) (bE : ∀ y ∈ eE, y.n ≤ 1000000000000 ∧ y.k ≤ 1000000000000)
    (hC : Outs w 97 14 mkRec bp vC eC) (nC : eC.length ≤ 1000000000) (bC : ∀ y ∈ eC, y.n ≤ 1000000000000 ∧ y.k ≤ 1000000000000)
    : Calls Try.prog 20 #[.pointer (some ⟨bp, 0, none⟩)] w fun e w' => e = .returned (.bool true) ∧ Below w.heap.size w w' := by
  have hbp : bp < w.heap.size := (Array.getElem?_eq_some_iff.1 hbk).1
  obtain ⟨aR, capR, hvR⟩ := hR.own.len
  rw [List.length_map] at hvR
  subst hvR
  obtain ⟨aF, capF, hvF⟩ := hF.own.len
  rw [List.length_map] at hvF
  subst hvF
  obtain ⟨aE, capE, hvE⟩ := hE.own.len
  rw [List.length_map] at hvE
  subst hvE
  obtain ⟨aC, capC, hvC⟩ := hC.own.len
  rw [List.length_map] at hvC
  subst hvC
  have hneR := mkRes_neq
  have hneF := mkFnd_neq
  have hneE := mkEty_neq
  have hneC := mkRec_neq
  have hb0 : Below w.heap.size w w := Below.refl _ _
  go_enter Try.func20, Try.ntmps20
  obtain ⟨c0, c1, c2, c3, -⟩ := book_cells hbk
  go_wp2_with fail
  go_loopw [3] (fun iv wr => ∃ i : Nat, i ≤ eR.length ∧ iv = .int .i64 i ∧ Below w.heap.size w wr) (fun iv _ => eR.length - (intOf iv).toNat)
  case atStart => exact ⟨0, Nat.zero_le _, rfl, by assumption⟩
  case round =>
    obtain ⟨i, hi, rfl, hb⟩ := hrel
    have hbs := hb.size
    clear c0 c1 c2 c3
    obtain ⟨c0, c1, c2, c3, -⟩ := book_cells ((hb.block bp hbp).trans hbk)
    by_cases hlt : i < eR.length
    · obtain ⟨y, hy⟩ : ∃ y, eR[i]? = some y := ⟨_, List.getElem?_eq_getElem hlt⟩
      obtain ⟨g, cap, hv, hg, hc0, hc1⟩ := hR.ent hy
      have hym := List.mem_of_getElem? hy
      have hyn := bR y hym
      have hyr := hR.rd y hym
      obtain ⟨yv, yn, yk⟩ := y
      obtain ⟨ya, ycap, hyv⟩ := hyr.len
      simp only [List.length_replicate] at hyv hyn
      simp only at hc0 hc1 hyr
      rw [hyv] at hc0 hyr
      clear hy hym hyv
      injection hv with hv1 hv2 hv3
      subst hv1
      have d0 : wr.cell? ⟨g, i * 2, none⟩ = some (.slice ya yn ycap) := (hb.cell (p := ⟨g, i * 2, none⟩) hg).trans hc0
      have d1 : wr.cell? ⟨g, i * 2 + 1, none⟩ = some (.int .i64 yk) := (hb.cell (p := ⟨g, i * 2 + 1, none⟩) hg).trans hc1
      go_wp2_with fail
      go_loopw [5] (fun jv wr2 => ∃ j : Nat, j ≤ yn ∧ jv = .int .i64 j ∧ Below w.heap.size w wr2 ∧ wr2.heap[wr.heap.size]? = some (.cells (mkRes yk).toArray 72)) (fun jv _ => yn - (intOf jv).toNat)
      case atStart => exact ⟨0, Nat.zero_le _, rfl, hb.alloc hb.size _, heap_alloc_new wr _⟩
      case round =>
        obtain ⟨j, hj, rfl, hb2, hm⟩ := hrel
        clear c0 c1 c2 c3 d0 d1
        obtain ⟨c0, c1, c2, c3, -⟩ := book_cells ((hb2.block bp hbp).trans hbk)
        have d0 : wr.cell? ⟨g, i * 2, none⟩ = some (.slice ya yn ycap) := (hb2.cell (p := ⟨g, i * 2, none⟩) hg).trans hc0
        by_cases hlj : j < yn
        · obtain ⟨g2, off, cap2, hv2, hg2, hr2⟩ := reads_at hyr hlj
          injection hv2 with hw1 hw2 hw3
          subst hw1
          obtain ⟨r0, r1, r2⟩ := mkRes_off (range_below hr2 hb2 hg2)
          obtain ⟨m0, m1, m2⟩ := mkRes_at hm
          clear hr2 hyr
          go_wp2_with fail
          go_quiet (fail)
          go_wp2_with fail
          exact ⟨⟨j + 1, by omega, val_int (by omega), below_drewN hb2 nq, by assumption⟩, by simp [intOf]; omega⟩
        · have hjj : j = yn := by omega
          subst hjj
          go_wp2_with fail
          exact ⟨⟨i + 1, by omega, val_int (by omega), hb2⟩, by simp [intOf]; omega⟩
    · have hii : i = eR.length := by omega
      subst hii
      go_wp2_with fail
      go_loopw [6] (fun iv wr => ∃ i : Nat, i ≤ eF.length ∧ iv = .int .i64 i ∧ Below w.heap.size w wr) (fun iv _ => eF.length - (intOf iv).toNat)
      case atStart => exact ⟨0, Nat.zero_le _, rfl, by assumption⟩
      case round =>
        obtain ⟨i, hi, rfl, hb⟩ := hrel
        have hbs := hb.size
        clear c0 c1 c2 c3
        obtain ⟨c0, c1, c2, c3, -⟩ := book_cells ((hb.block bp hbp).trans hbk)
        by_cases hlt : i < eF.length
        · obtain ⟨y, hy⟩ : ∃ y, eF[i]? = some y := ⟨_, List.getElem?_eq_getElem hlt⟩
          obtain ⟨g, cap, hv, hg, hc0, hc1⟩ := hF.ent hy
          have hym := List.mem_of_getElem? hy
          have hyn := bF y hym
          have hyr := hF.rd y hym
          obtain ⟨yv, yn, yk⟩ := y
          obtain ⟨ya, ycap, hyv⟩ := hyr.len
          simp only [List.length_replicate] at hyv hyn
          simp only at hc0 hc1 hyr
          rw [hyv] at hc0 hyr
          clear hy hym hyv
          injection hv with hv1 hv2 hv3
          subst hv1
          have d0 : wr.cell? ⟨g, i * 2, none⟩ = some (.slice ya yn ycap) := (hb.cell (p := ⟨g, i * 2, none⟩) hg).trans hc0
          have d1 : wr.cell? ⟨g, i * 2 + 1, none⟩ = some (.int .i64 yk) := (hb.cell (p := ⟨g, i * 2 + 1, none⟩) hg).trans hc1
          go_wp2_with fail
          go_loopw [8] (fun jv wr2 => ∃ j : Nat, j ≤ yn ∧ jv = .int .i64 j ∧ Below w.heap.size w wr2 ∧ wr2.heap[wr.heap.size]? = some (.cells (mkFnd yk).toArray 103)) (fun jv _ => yn - (intOf jv).toNat)
          case atStart => exact ⟨0, Nat.zero_le _, rfl, hb.alloc hb.size _, heap_alloc_new wr _⟩
          case round =>
            obtain ⟨j, hj, rfl, hb2, hm⟩ := hrel
            clear c0 c1 c2 c3 d0 d1
            obtain ⟨c0, c1, c2, c3, -⟩ := book_cells ((hb2.block bp hbp).trans hbk)
            have d0 : wr.cell? ⟨g, i * 2, none⟩ = some (.slice ya yn ycap) := (hb2.cell (p := ⟨g, i * 2, none⟩) hg).trans hc0
            by_cases hlj : j < yn
            · obtain ⟨g2, off, cap2, hv2, hg2, hr2⟩ := reads_at hyr hlj
              injection hv2 with hw1 hw2 hw3
              subst hw1
              obtain ⟨r0, r1, r2⟩ := mkFnd_off (range_below hr2 hb2 hg2)
              obtain ⟨m0, m1, m2⟩ := mkFnd_at hm
              clear hr2 hyr
              go_wp2_with fail
              go_quiet (fail)
              go_wp2_with fail
              exact ⟨⟨j + 1, by omega, val_int (by omega), below_drewN hb2 nq, by assumption⟩, by simp [intOf]; omega⟩
            · have hjj : j = yn := by omega
              subst hjj
              go_wp2_with fail
              exact ⟨⟨i + 1, by omega, val_int (by omega), hb2⟩, by simp [intOf]; omega⟩
        · have hii : i = eF.length := by omega
          subst hii
          go_wp2_with fail
          go_loopw [9] (fun iv wr => ∃ i : Nat, i ≤ eE.length ∧ iv = .int .i64 i ∧ Below w.heap.size w wr) (fun iv _ => eE.length - (intOf iv).toNat)
          case atStart => exact ⟨0, Nat.zero_le _, rfl, by assumption⟩
          case round =>
            obtain ⟨i, hi, rfl, hb⟩ := hrel
            have hbs := hb.size
            clear c0 c1 c2 c3
            obtain ⟨c0, c1, c2, c3, -⟩ := book_cells ((hb.block bp hbp).trans hbk)
            by_cases hlt : i < eE.length
            · obtain ⟨y, hy⟩ : ∃ y, eE[i]? = some y := ⟨_, List.getElem?_eq_getElem hlt⟩
              obtain ⟨g, cap, hv, hg, hc0, hc1⟩ := hE.ent hy
              have hym := List.mem_of_getElem? hy
              have hyn := bE y hym
              have hyr := hE.rd y hym
              obtain ⟨yv, yn, yk⟩ := y
              obtain ⟨ya, ycap, hyv⟩ := hyr.len
              simp only [List.length_replicate] at hyv hyn
              simp only at hc0 hc1 hyr
              rw [hyv] at hc0 hyr
              clear hy hym hyv
              injection hv with hv1 hv2 hv3
              subst hv1
              have d0 : wr.cell? ⟨g, i * 2, none⟩ = some (.slice ya yn ycap) := (hb.cell (p := ⟨g, i * 2, none⟩) hg).trans hc0
              have d1 : wr.cell? ⟨g, i * 2 + 1, none⟩ = some (.int .i64 yk) := (hb.cell (p := ⟨g, i * 2 + 1, none⟩) hg).trans hc1
              go_wp2_with fail
              go_loopw [11] (fun jv wr2 => ∃ j : Nat, j ≤ yn ∧ jv = .int .i64 j ∧ Below w.heap.size w wr2 ∧ wr2.heap[wr.heap.size]? = some (.cells (mkEty yk).toArray 108)) (fun jv _ => yn - (intOf jv).toNat)
              case atStart => exact ⟨0, Nat.zero_le _, rfl, hb.alloc hb.size _, heap_alloc_new wr _⟩
              case round =>
                obtain ⟨j, hj, rfl, hb2, hm⟩ := hrel
                clear c0 c1 c2 c3 d0 d1
                obtain ⟨c0, c1, c2, c3, -⟩ := book_cells ((hb2.block bp hbp).trans hbk)
                have d0 : wr.cell? ⟨g, i * 2, none⟩ = some (.slice ya yn ycap) := (hb2.cell (p := ⟨g, i * 2, none⟩) hg).trans hc0
                by_cases hlj : j < yn
                · obtain ⟨g2, off, cap2, hv2, hg2, hr2⟩ := reads_at hyr hlj
                  injection hv2 with hw1 hw2 hw3
                  subst hw1
                  obtain ⟨r0, r1, r2, r3, r4, r5, r6, r7⟩ := mkEty_off (range_below hr2 hb2 hg2)
                  obtain ⟨m0, m1, m2, m3, m4, m5, m6, m7⟩ := mkEty_at hm
                  clear hr2 hyr
                  go_wp2_with fail
                  go_quiet (fail)
                  go_wp2_with fail
                  exact ⟨⟨j + 1, by omega, val_int (by omega), below_drewN hb2 nq, by assumption⟩, by simp [intOf]; omega⟩
                · have hjj : j = yn := by omega
                  subst hjj
                  go_wp2_with fail
                  exact ⟨⟨i + 1, by omega, val_int (by omega), hb2⟩, by simp [intOf]; omega⟩
            · have hii : i = eE.length := by omega
              subst hii
              go_wp2_with fail
              go_loopw [12] (fun iv wr => ∃ i : Nat, i ≤ eC.length ∧ iv = .int .i64 i ∧ Below w.heap.size w wr) (fun iv _ => eC.length - (intOf iv).toNat)
              case atStart => exact ⟨0, Nat.zero_le _, rfl, by assumption⟩
              case round =>
                obtain ⟨i, hi, rfl, hb⟩ := hrel
                have hbs := hb.size
                clear c0 c1 c2 c3
                obtain ⟨c0, c1, c2, c3, -⟩ := book_cells ((hb.block bp hbp).trans hbk)
                by_cases hlt : i < eC.length
                · obtain ⟨y, hy⟩ : ∃ y, eC[i]? = some y := ⟨_, List.getElem?_eq_getElem hlt⟩
                  obtain ⟨g, cap, hv, hg, hc0, hc1⟩ := hC.ent hy
                  have hym := List.mem_of_getElem? hy
                  have hyn := bC y hym
                  have hyr := hC.rd y hym
                  obtain ⟨yv, yn, yk⟩ := y
                  obtain ⟨ya, ycap, hyv⟩ := hyr.len
                  simp only [List.length_replicate] at hyv hyn
                  simp only at hc0 hc1 hyr
                  rw [hyv] at hc0 hyr
                  clear hy hym hyv
                  injection hv with hv1 hv2 hv3
                  subst hv1
                  have d0 : wr.cell? ⟨g, i * 2, none⟩ = some (.slice ya yn ycap) := (hb.cell (p := ⟨g, i * 2, none⟩) hg).trans hc0
                  have d1 : wr.cell? ⟨g, i * 2 + 1, none⟩ = some (.int .i64 yk) := (hb.cell (p := ⟨g, i * 2 + 1, none⟩) hg).trans hc1
                  go_wp2_with fail
                  go_loopw [14] (fun jv wr2 => ∃ j : Nat, j ≤ yn ∧ jv = .int .i64 j ∧ Below w.heap.size w wr2 ∧ wr2.heap[wr.heap.size]? = some (.cells (mkRec yk).toArray 25)) (fun jv _ => yn - (intOf jv).toNat)
                  case atStart => exact ⟨0, Nat.zero_le _, rfl, hb.alloc hb.size _, heap_alloc_new wr _⟩
                  case round =>
                    obtain ⟨j, hj, rfl, hb2, hm⟩ := hrel
                    clear c0 c1 c2 c3 d0 d1
                    obtain ⟨c0, c1, c2, c3, -⟩ := book_cells ((hb2.block bp hbp).trans hbk)
                    have d0 : wr.cell? ⟨g, i * 2, none⟩ = some (.slice ya yn ycap) := (hb2.cell (p := ⟨g, i * 2, none⟩) hg).trans hc0
                    by_cases hlj : j < yn
                    · obtain ⟨g2, off, cap2, hv2, hg2, hr2⟩ := reads_at hyr hlj
                      injection hv2 with hw1 hw2 hw3
                      subst hw1
                      obtain ⟨r0, r1, r2, r3, r4, r5, r6, r7, r8, r9, r10, r11, r12, r13⟩ := mkRec_off (range_below hr2 hb2 hg2)
                      obtain ⟨m0, m1, m2, m3, m4, m5, m6, m7, m8, m9, m10, m11, m12, m13⟩ := mkRec_at hm
                      clear hr2 hyr
                      go_wp2_with fail
                      go_quiet (fail)
                      go_wp2_with fail
                      exact ⟨⟨j + 1, by omega, val_int (by omega), below_drewN hb2 nq, by assumption⟩, by simp [intOf]; omega⟩
                    · have hjj : j = yn := by omega
                      subst hjj
                      go_wp2_with fail
                      exact ⟨⟨i + 1, by omega, val_int (by omega), hb2⟩, by simp [intOf]; omega⟩
                · have hii : i = eC.length := by omega
                  subst hii
                  go_wp2_with fail
                  go_ret
                  exact ⟨rfl, hb⟩
end Go.Proofs.Ythoaomaknegblaa
