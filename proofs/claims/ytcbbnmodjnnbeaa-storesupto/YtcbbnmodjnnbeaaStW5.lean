/- The law on stores: Do of a list that may not be. -/
import Derived.Test.YtcbbnmodjnnbeaaStW4
set_option linter.unusedSimpArgs false
set_option linter.unusedVariables false
namespace Go.Proofs.Ytcbbnmodjnnbeaa
open Go.RowKit

theorem end_no {w W : World} {bp kb n p b : Nat} {D : DataW Value} {q : Nat} {vl : Value} {l : List KV} {s : St} (h : PairAt w bp p b D q vl l s) {vR vF : Value} {eR eF : List Ent} (hB : BookAt w kb vR vF eR eF n) (hPB : ∀ x, footP bp p b D q vl x → ¬ footBk kb vR vF eR eF x) (hn : n ≤ 900000000) (T : w.turned W (fun x => w.heap.size ≤ x)) :
    Calls Try.prog 66 #[.pointer (some ⟨kb, 0, none⟩), .slice none 0 0] W fun e w' => e = .returned (.tuple #[]) ∧ ActOut w bp kb n (footP bp p b D q vl) (footBk kb vR vF eR eF) (.returned (.bool true)) w' := by
  have hT : w.turned W (footP bp p b D q vl) := T.mono fun k hk h => by omega
  have hP : PairAt W bp p b D q vl l s := h.beside T fun x hx hy => by have := h.foot_lt hx; omega
  have hB7 : BookAt W kb vR vF eR eF n := hB.beside hT fun x hx hy => hPB x hy hx
  refine (bookRes W kb n vR vF eR eF hB7 none 0 [] (World.ownL.nil _ _ _) (fun k hk => by cases hk) (by simp) hn).mono ?_
  rintro e w8 ⟨rfl, hOut⟩
  exact ⟨rfl, actOut_end h hB hPB hT hP (fun x hx => .inl hx) (v := .slice none 0 0) (fun x hx => by cases hx) hOut⟩
set_option maxRecDepth 100000 in
set_option maxHeartbeats 8000000 in
theorem actDoNo (w : World) (bp kb n p b : Nat) (D : DataW Value) (q : Nat) (vl : Value) (l : List KV) (s : St) (h : PairAt w bp p b D q vl l s) (vR vF : Value) (eR eF : List Ent) (hB : BookAt w kb vR vF eR eF n) (hPB : ∀ x, footP bp p b D q vl x → ¬ footBk kb vR vF eR eF x) (hn : n ≤ 900000000)
    (ac : Option Addr) (capc : Nat) (cs : List Cmd) (hr : w.reads 7 (.slice ac cs.length capc) (cs.map Cmd.cells)) (hc : cs.length ≤ 1048576) (hno : ∃ c ∈ cs, c.may = false) (fr to t : ByteArray) (rev most : Int) :
    Calls Try.prog 27 #[.pointer (some ⟨bp, 0, none⟩), .agg #[.int .i64 1, .slice ac cs.length capc, .string fr, .string to, .int .i64 rev, .int .i64 most, .string t], .pointer (some ⟨kb, 0, none⟩)] w (ActOut w bp kb n (footP bp p b D q vl) (footBk kb vR vF eR eF)) := by
  have H : Hid (PairAt w bp p b D q vl l s) := h
  have HBK : Hid (BookAt w kb vR vF eR eF n) := hB
  have HPB : Hid (∀ x, footP bp p b D q vl x → ¬ footBk kb vR vF eR eF x) := hPB
  have HN : Hid (n ≤ 900000000) := hn
  have HR : Hid (w.reads 7 (.slice ac cs.length capc) (cs.map Cmd.cells)) := hr
  have HNO : Hid (∃ c ∈ cs, c.may = false) := hno
  have hbp := h.lt
  clear h hB hPB hn hr hno
  go_enter Try.func27, Try.ntmps27
  go_wp2_with fail
  obtain ⟨W0, hW0⟩ : ∃ W0, w.alloc (.cells #[.int .i64 1, .slice ac cs.length capc, .string fr, .string to, .int .i64 rev, .int .i64 most, .string t] 61) = W0 := ⟨_, rfl⟩
  have hb0 : Below w.heap.size w W0 := by rw [← hW0]; exact (by repeat (first | exact Below.refl _ _ | assumption | with_reducible refine below_drewN ?_ _ | refine Gr.ext ?_ _ | refine Gr.alloc ?_ _ | refine Gr.drew ?_ | (refine Gr.set ?_ (by first | (simp; done) | (simp; omega)) _)))
  have hz0 : w.heap.size < W0.heap.size := by rw [← hW0]; simp
  have hA0 : W0.heap[w.heap.size]? = some (.cells #[.int .i64 1, .slice ac cs.length capc, .string fr, .string to, .int .i64 rev, .int .i64 most, .string t] 61) := by rw [← hW0]; exact heap_alloc_new _ _
  rw [hW0]
  clear hW0
  have HB0 : Hid (Below w.heap.size w W0) := hb0
  have HA0 : Hid (W0.heap[w.heap.size]? = some (.cells #[.int .i64 1, .slice ac cs.length capc, .string fr, .string to, .int .i64 rev, .int .i64 most, .string t] 61)) := hA0
  clear hb0 hA0
  refine (lawLent _ ac capc cs (fun hne => HR.out.keep fun k hk => HB0.out.block k (reads_lt HR.out hk)) hc).mono ?_
  rintro e w1 ⟨g, rfl, hg, ho1, hb1⟩
  have HB1 : Hid (Below W0.heap.size W0 w1) := hb1
  have HO1 : Hid (w1.ownL 23 7 (.slice (some ⟨g, 0, none⟩) (cs.length + 8) (cs.length + 8)) ((lentL cs).map Cmd.cells)) := ho1
  have HG : Hid (W0.heap.size ≤ g ∧ g < w1.heap.size) := ⟨hg, ho1.lt rfl⟩
  have hA1 := (hb1.block _ hz0).trans HA0.out
  have hz1 : w.heap.size < w1.heap.size := by have := hb1.size; omega
  have HT1 : Hid (Below w.heap.size w w1) := HB0.out.trans (hb1.mono HB0.out.size)
  obtain ⟨a0, a1, a2, a3, a4, a5, a6, af⟩ := ask_cells hA1
  obtain ⟨k0, k1, kf⟩ := pair_cells (H.out.grown HT1.out).blk
  have HA1 : Hid (w1.heap[w.heap.size]? = some (.cells #[.int .i64 1, .slice ac cs.length capc, .string fr, .string to, .int .i64 rev, .int .i64 most, .string t] 61)) := hA1
  clear hb1 ho1 hg hA1
  have HDO : Hid (∀ W, Below w1.heap.size w1 W → Calls Try.prog 31 #[.pointer (some ⟨p, 0, none⟩), .slice (some ⟨g, 0, none⟩) cs.length (cs.length + 8)] W fun e w' => e = .returned (.tuple #[.slice none 0 0, .int .i64 8]) ∧ Below w1.heap.size w1 w') := by
    intro W hW
    refine (storeDoNo W p (some ⟨g, 0, none⟩) (cs.length + 8) cs ((lent_prefix HO1.out).keep fun k hk => hW.block k (reads_lt (lent_prefix HO1.out) hk)) (by omega) HNO.out).mono ?_
    rintro e w2 ⟨rfl, hb⟩
    exact ⟨rfl, below_via hb hW⟩
  go_wp2_with fail
  go_region_with (go_at_call 31; refine (HDO.out _ (by repeat (first | exact Below.refl _ _ | assumption | with_reducible refine below_drewN ?_ _ | refine Gr.ext ?_ _ | refine Gr.alloc ?_ _ | refine Gr.drew ?_ | (refine Gr.set ?_ (by first | (simp; done) | (simp; omega)) _)))).mono ?_; rintro e w2 ⟨rfl, hdo⟩)
  all_goals
    have hA2 := (hdo.block _ hz1).trans HA1.out
    have hz2 : w.heap.size < w2.heap.size := by have := hdo.size; omega
    have HT2 : Hid (Below w.heap.size w w2) := HT1.out.trans (hdo.mono HT1.out.size)
    clear a0 a1 a2 a3 a4 a5 a6 af k0 k1 kf HDO
    obtain ⟨a0, a1, a2, a3, a4, a5, a6, af⟩ := ask_cells hA2
    obtain ⟨k0, k1, kf⟩ := pair_cells (H.out.grown HT2.out).blk
    have HA2 : Hid (w2.heap[w.heap.size]? = some (.cells #[.int .i64 1, .slice ac cs.length capc, .string fr, .string to, .int .i64 rev, .int .i64 most, .string t] 61)) := hA2
    have HT12 : Hid (Below w1.heap.size w1 w2) := hdo
    clear hdo hA2
    have HDRH : Hid (∀ W, Below w2.heap.size w2 W → Calls Try.prog 63 #[.pointer (some ⟨q, 0, none⟩), .slice ac cs.length capc] W fun e w' => e = .returned (.tuple #[.slice none 0 0, .int .i64 8]) ∧ Below w2.heap.size w2 w') := by
      intro W hW
      have hb : Below w.heap.size w W := HT2.out.trans (hW.mono HT2.out.size)
      refine (refDoNo W q ac capc cs (HR.out.keep fun k hk => hb.block k (reads_lt HR.out hk)) (by omega) HNO.out).mono ?_
      rintro e w3 ⟨rfl, hb3⟩
      exact ⟨rfl, below_via hb3 hW⟩
    go_wp2_with fail
    go_region_with (
      go_at_call 63
      refine (HDRH.out _ (by repeat (first | exact Below.refl _ _ | assumption | with_reducible refine below_drewN ?_ _ | refine Gr.ext ?_ _ | refine Gr.alloc ?_ _ | refine Gr.drew ?_ | (refine Gr.set ?_ (by first | (simp; done) | (simp; omega)) _)))).mono ?_
      rintro e w3 ⟨rfl, hI3⟩
      have HT13 : Hid (Below w1.heap.size w1 w3) := HT12.out.trans (hI3.mono HT12.out.size)
      have hA3 := (hI3.block _ hz2).trans HA2.out
      have hz3 : w.heap.size < w3.heap.size := by have := hI3.size; omega
      clear a0 a1 a2 a3 a4 a5 a6 af k0 k1 kf
      obtain ⟨a0, a1, a2, a3, a4, a5, a6, af⟩ := ask_cells hA3
      have HT3 : Hid (Below w.heap.size w w3) := HT1.out.trans (HT13.out.mono HT1.out.size)
      clear hI3 hA3 HDRH)
    all_goals
      have HO3 : Hid (w3.ownL 23 7 (.slice (some ⟨g, 0, none⟩) (cs.length + 8) (cs.length + 8)) ((lentL cs).map Cmd.cells)) := HO1.out.keep fun k hk => HT13.out.block k (HO1.out.lt hk)
      go_wp2_with fail
      refine (lawLent _ ac capc cs (fun hne => HR.out.keep fun k hk => (below_via ((by repeat (first | exact Below.refl _ _ | assumption | with_reducible refine below_drewN ?_ _ | refine Gr.ext ?_ _ | refine Gr.alloc ?_ _ | refine Gr.drew ?_ | (refine Gr.set ?_ (by first | (simp; done) | (simp; omega)) _))) : Below w3.heap.size w3 _) HT3.out).block k (reads_lt HR.out hk)) hc).mono ?_
      rintro e w4 ⟨g4, rfl, hg4, ho4, hb4'⟩
      have hb4 : Below w3.heap.size w3 w4 := below_via hb4' (by repeat (first | exact Below.refl _ _ | assumption | with_reducible refine below_drewN ?_ _ | refine Gr.ext ?_ _ | refine Gr.alloc ?_ _ | refine Gr.drew ?_ | (refine Gr.set ?_ (by first | (simp; done) | (simp; omega)) _)))
      have HB4 : Hid (Below w3.heap.size w3 w4) := hb4
      have HSC : Hid (∀ W, Below w4.heap.size w4 W → Calls Try.prog 64 #[.slice (some ⟨g, 0, none⟩) (cs.length + 8) (cs.length + 8), .slice (some ⟨g4, 0, none⟩) (cs.length + 8) (cs.length + 8)] W fun e w' => e = .returned (.bool true) ∧ Below w4.heap.size w4 w') := by
        intro W hW
        refine (same_lent W g g4 cs hc ((HO3.out.keep fun k hk => hb4.block k (HO3.out.lt hk)).keep fun k hk => hW.block k ((HO3.out.keep fun k hk => hb4.block k (HO3.out.lt hk)).lt hk)) (ho4.keep fun k hk => hW.block k (ho4.lt hk))).mono ?_
        rintro e w5 ⟨rfl, n5, rfl⟩
        exact ⟨rfl, below_drewN hW n5⟩
      clear hb4 hb4' ho4 hg4 a0 a1 a2 a3 a4 a5 a6 af
      go_wp2_with fail
      refine (HSC.out _ (by repeat (first | exact Below.refl _ _ | assumption | with_reducible refine below_drewN ?_ _ | refine Gr.ext ?_ _ | refine Gr.alloc ?_ _ | refine Gr.drew ?_ | (refine Gr.set ?_ (by first | (simp; done) | (simp; omega)) _)))).mono ?_
      rintro e w5 ⟨rfl, hb5⟩
      have HB5 : Hid (Below w3.heap.size w3 w5) := HB4.out.trans (hb5.mono HB4.out.size)
      clear hb5 HSC
      go_wp2_with fail
      have HSP : Hid (∀ W, Below w5.heap.size w5 W → Calls Try.prog 65 #[.slice (some ⟨g, 0, none⟩) (cs.length + 8) (cs.length + 8)] W fun e w' => e = .returned (.tuple #[]) ∧ w.turned w' (fun x => w.heap.size ≤ x)) := by
        intro W hW
        have hb : Below w3.heap.size w3 W := HB5.out.trans (hW.mono HB5.out.size)
        refine (lawSpoil W g (cs.length + 8) ((lentL cs).map Cmd.cells) (by rw [List.length_map, lentL_len]) (HO3.out.keep fun k hk => hb.block k (HO3.out.lt hk)) (by omega)).mono ?_
        rintro e w6 ⟨rfl, h6⟩
        exact ⟨rfl, (World.turned.of_below (HT3.out.trans (hb.mono HT3.out.size)) _).trans h6 fun k _ h => by have h1 := HG.out.1; have h2 := HB0.out.size; omega⟩
      refine (HSP.out _ (by repeat (first | exact Below.refl _ _ | assumption | with_reducible refine below_drewN ?_ _ | refine Gr.ext ?_ _ | refine Gr.alloc ?_ _ | refine Gr.drew ?_ | (refine Gr.set ?_ (by first | (simp; done) | (simp; omega)) _)))).mono ?_
      rintro e w6 ⟨rfl, ht6⟩
      have HT6 : Hid (w.turned w6 (fun x => w.heap.size ≤ x)) := ht6
      clear ht6 HSP
      have HSR : Hid (∀ W, Below w6.heap.size w6 W → Calls Try.prog 36 #[.slice none 0 0, .slice none 0 0] W fun e w' => e = .returned (.bool true) ∧ Below w6.heap.size w6 w') := by
        intro W hW
        refine (sameResults_same none none 0 0 [] W (by simp) (World.ownL.nil W 72 3).reads (World.ownL.nil W 72 3).reads).mono ?_
        rintro e w7 ⟨rfl, n7, rfl⟩
        exact ⟨rfl, below_drewN hW n7⟩
      go_wp2_with fail
      refine (HSR.out _ (by repeat (first | exact Below.refl _ _ | assumption | with_reducible refine below_drewN ?_ _ | refine Gr.ext ?_ _ | refine Gr.alloc ?_ _ | refine Gr.drew ?_ | (refine Gr.set ?_ (by first | (simp; done) | (simp; omega)) _)))).mono ?_
      rintro e w7 ⟨rfl, hb7⟩
      have HT7 : Hid (∀ W, Below w7.heap.size w7 W → w.turned W (fun x => w.heap.size ≤ x)) := fun W hW => (HT6.out.trans (World.turned.of_below hb7 (fun x => w.heap.size ≤ x)) fun k _ h => h).trans (World.turned.of_below hW (fun x => w.heap.size ≤ x)) fun k _ h => h
      clear hb7 HSR
      go_wp2_with fail
      refine (end_no H.out HBK.out HPB.out HN.out (HT7.out _ (by repeat (first | exact Below.refl _ _ | assumption | with_reducible refine below_drewN ?_ _ | refine Gr.ext ?_ _ | refine Gr.alloc ?_ _ | refine Gr.drew ?_ | (refine Gr.set ?_ (by first | (simp; done) | (simp; omega)) _))))).mono ?_
      rintro e w8 ⟨rfl, hA⟩
      have HA8 : Hid _ := hA
      clear hA
      go_wp2_with fail
      exact bodyPost_ret (v := .bool true) (by simp [results, Try.results27, go_sem]) rfl ⟨rfl, HA8.out.2⟩
end Go.Proofs.Ytcbbnmodjnnbeaa
