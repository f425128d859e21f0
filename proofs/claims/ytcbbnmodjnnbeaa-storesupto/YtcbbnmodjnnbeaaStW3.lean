/- The law on stores: the pair of a program's store and the document's. -/
import Derived.Test.YtcbbnmodjnnbeaaRefW10
import Derived.Test.YtcbbnmodjnnbeaaSavedW
set_option linter.unusedSimpArgs false
set_option linter.unusedVariables false
namespace Go.Proofs.Ytcbbnmodjnnbeaa
open Go.RowKit

theorem below_via {w W w1 : World} (h1 : Below W.heap.size W w1) (h0 : Below w.heap.size w W) : Below w.heap.size w w1 := h0.trans (h1.mono h0.size)
theorem RefAt.beside {wr W : World} {q : Nat} {vl : Value} {s : St} {l : List KV} (h : RefAt wr q vl s l) {S : Nat → Prop} (ht : wr.turned W S) (hn : ∀ x, footR q vl x → ¬ S x) : RefAt W q vl s l :=
  h.keep fun x hx => ht.block x (h.foot_lt hx) (hn x hx)
structure PairAt (w : World) (bp p b : Nat) (D : DataW Value) (q : Nat) (vl : Value) (l : List KV) (s : St) : Prop where
  blk : w.heap[bp]? = some (.cells #[.pointer (some ⟨p, 0, none⟩), .pointer (some ⟨q, 0, none⟩)] 57)
  st : StoreAt w p b D s
  rf : RefAt w q vl s l
  sav : Sav s
  sb : ¬ footS p b D bp
  rb : ¬ footR q vl bp
  sr : ∀ x, footS p b D x → ¬ footR q vl x
def footP (bp p b : Nat) (D : DataW Value) (q : Nat) (vl : Value) (x : Nat) : Prop := x = bp ∨ footS p b D x ∨ footR q vl x
section
variable {w w' : World} {bp p b : Nat} {D : DataW Value} {q : Nat} {vl : Value} {l : List KV} {s : St}
theorem PairAt.lt (h : PairAt w bp p b D q vl l s) : bp < w.heap.size := (Array.getElem?_eq_some_iff.1 h.blk).1
theorem PairAt.foot_lt (h : PairAt w bp p b D q vl l s) {x : Nat} (hx : footP bp p b D q vl x) : x < w.heap.size := by
  rcases hx with rfl | hx | hx
  · exact h.lt
  · exact h.st.foot_lt hx
  · exact h.rf.foot_lt hx
theorem PairAt.beside {S : Nat → Prop} (h : PairAt w bp p b D q vl l s) (ht : w.turned w' S) (hn : ∀ x, footP bp p b D q vl x → ¬ S x) : PairAt w' bp p b D q vl l s :=
  ⟨(ht.block bp h.lt (hn bp (.inl rfl))).trans h.blk, h.st.beside ht fun x hx => hn x (.inr (.inl hx)), h.rf.beside ht fun x hx => hn x (.inr (.inr hx)), h.sav, h.sb, h.rb, h.sr⟩
theorem PairAt.grown (h : PairAt w bp p b D q vl l s) (hb : Below w.heap.size w w') : PairAt w' bp p b D q vl l s := h.beside (World.turned.of_below hb fun _ => False) fun _ _ h => h
theorem pair_cells (h : w.heap[bp]? = some (.cells #[.pointer (some ⟨p, 0, none⟩), .pointer (some ⟨q, 0, none⟩)] 57)) :
    w.cell? ⟨bp, 0, none⟩ = some (.pointer (some ⟨p, 0, none⟩)) ∧ w.cell? ⟨bp, 1, none⟩ = some (.pointer (some ⟨q, 0, none⟩)) ∧ ∀ o, w.frozen? ⟨bp, o, none⟩ = false := by
  refine ⟨?_, ?_, fun o => ?_⟩
  · simp only [World.cell?, h]; rfl
  · simp only [World.cell?, h]; rfl
  · simp [World.frozen?, h]
end
theorem refNew (w : World) : Calls Try.prog 26 #[] w fun e w' => ∃ q, e = .returned (.pointer (some ⟨q, 0, none⟩)) ∧ RefAt w' q nilS St.empty [] ∧ w.heap.size ≤ q ∧ Below w.heap.size w w' := by
  go_enter Try.func26, Try.ntmps26
  go_wp2_with fail
  refine bodyPost_ret (v := .pointer (some ⟨w.heap.size, 0, none⟩)) (by simp [results, Try.results26, go_sem]) rfl ⟨w.heap.size, rfl, ⟨Hp.new rfl, World.ownL.nil _ _ _, ⟨List.Pairwise.nil, fun k => rfl⟩, ⟨by decide, by decide, fun k => List.Pairwise.nil, (fun k v hv => by cases hv), rfl⟩⟩, Nat.le_refl _, (by repeat (first | exact Below.refl _ _ | assumption | with_reducible refine below_drewN ?_ _ | refine Gr.ext ?_ _ | refine Gr.alloc ?_ _ | refine Gr.drew ?_ | (refine Gr.set ?_ (by first | (simp; done) | (simp; omega)) _)))⟩
theorem saveL_len8 {s : St} (hB : Bnd s) {ks : List ByteArray} (hk : KeysIn s ks) : (saveL s ks).length ≤ 100000000 := by
  have h1 := versL_len hB ks fun x hx => (hk.2 x).1 hx
  have h2 := hB.tot ks (keys_nodup (s := s) hk.1)
  have h3 := hB.good.rev
  have h4 := flat_len sesL s.ss 7 fun x _ => by simp [sesL, flagL, be_length]
  have h5 := hB.good.ss
  unfold totN at h1
  simp only [saveL, List.length_append, be_length]
  omega
/-- A pair that stands on F. -/
structure PairIn (w : World) (bp : Nat) (F : Nat → Prop) : Prop where
  lt : ∀ x, F x → x < w.heap.size
  is : ∃ p b D q vl l s, PairAt w bp p b D q vl l s ∧ ∀ x, footP bp p b D q vl x → F x
theorem PairAt.isIn {w : World} {bp p b : Nat} {D : DataW Value} {q : Nat} {vl : Value} {l : List KV} {s : St} (h : PairAt w bp p b D q vl l s) : PairIn w bp (footP bp p b D q vl) := ⟨fun _ hx => h.foot_lt hx, p, b, D, q, vl, l, s, h, fun _ hx => hx⟩
theorem PairIn.beside {w w' : World} {bp : Nat} {F S : Nat → Prop} (h : PairIn w bp F) (ht : w.turned w' S) (hn : ∀ x, F x → ¬ S x) : PairIn w' bp F := by
  obtain ⟨p, b, D, q, vl, l, s, h1, h2⟩ := h.is
  exact ⟨fun x hx => Nat.lt_of_lt_of_le (h.lt x hx) ht.size, p, b, D, q, vl, l, s, h1.beside ht fun x hx => hn x (h2 x hx), h2⟩
set_option maxRecDepth 100000 in
set_option maxHeartbeats 4000000 in
theorem lawLoads (w : World) (bp p b : Nat) (D : DataW Value) (q : Nat) (vl : Value) (l : List KV) (s : St) (h : PairAt w bp p b D q vl l s) (t : ByteArray) (ht : t.size ≤ 100000000) :
    Calls Try.prog 70 #[.pointer (some ⟨bp, 0, none⟩), .string t] w fun e w' => e = .returned (.bool true) ∧ ∃ F, PairIn w' bp F ∧ (∀ x, F x → footP bp p b D q vl x ∨ w.heap.size ≤ x) ∧ w.turned w' (fun x => x = bp) := by
  have H : Hid (PairAt w bp p b D q vl l s) := h
  have HT : Hid (t.size ≤ 100000000) := ht
  obtain ⟨c0, c1, cf⟩ := pair_cells h.blk
  have hbp := h.lt
  clear h ht
  go_enter Try.func70, Try.ntmps70
  go_wp2_with fail
  refine (storeLoad _ t (by have := HT.out; unfold maxLen; omega)).mono ?_
  rintro e w1 ⟨hb1, o, HO, hcase⟩
  have HB1 : Hid (Below w.heap.size w w1) := hb1
  rcases hcase with ⟨rfl, rfl⟩ | ⟨st, p1, b1, D1, rfl, rfl, hst, hf1⟩
  · clear hb1
    go_wp2_with fail
    refine (refLoadW _ t HT.out).mono ?_
    rintro e w2 h2
    rcases h2 with ⟨ho, rfl, hb2⟩ | ⟨st, l2, q2, vl2, ho, _⟩
    · have HB2 : Hid (Below w.heap.size w w2) := HB1.out.trans (hb2.mono HB1.out.size)
      clear hb2 ho
      go_wp2_with fail
      go_ret
      exact ⟨rfl, _, (H.out.grown HB2.out).isIn, fun x hx => .inl hx, World.turned.of_below HB2.out _⟩
    · have := HO.out; rw [ho] at this; cases this
  · have HS1 : Hid (StoreAt w1 p1 b1 D1 st) := hst
    have HF1 : Hid (∀ x, footS p1 b1 D1 x → w.heap.size ≤ x) := hf1
    clear hb1 hst hf1
    go_wp2_with fail
    refine (refLoadW _ t HT.out).mono ?_
    rintro e w2 h2
    rcases h2 with ⟨ho, _⟩ | ⟨st2, l2, q2, vl2, ho, hsv, rfl, hr2, hf2, hb2⟩
    · have := HO.out; rw [ho] at this; cases this
    · have e1 : st2 = st := by have := HO.out; rw [ho] at this; injection this with this; exact this.symm
      subst e1
      have HB2 : Hid (Below w.heap.size w w2) := HB1.out.trans (hb2.mono HB1.out.size)
      have hq2 := HB2.out.block bp hbp
      have hbp2 : bp < w2.heap.size := by have := HB2.out.size; omega
      obtain ⟨d0, d1, df⟩ := pair_cells (hq2.trans H.out.blk)
      have HP : Hid (∀ w3, w2.turned w3 (fun x => x = bp) → w3.heap[bp]? = some (.cells #[.pointer (some ⟨p1, 0, none⟩), .pointer (some ⟨q2, 0, none⟩)] 57) → PairAt w3 bp p1 b1 D1 q2 vl2 l2 st2) := by
        intro w3 h3 h4
        have i1 := HB1.out.size
        have n1 : ∀ x, footS p1 b1 D1 x → ¬ x = bp := fun x hx e => by have := HF1.out x hx; omega
        have n2 : ∀ x, footR q2 vl2 x → ¬ x = bp := fun x hx e => by have := hf2 x hx; omega
        refine ⟨h4, ((HS1.out.grown hb2).beside h3 n1), hr2.beside h3 n2, hsv, fun hx => n1 bp hx rfl, fun hx => n2 bp hx rfl, fun x hx hy => ?_⟩
        have := HS1.out.foot_lt hx
        have := hf2 x hy
        omega
      have HF2 : Hid (∀ x, footP bp p1 b1 D1 q2 vl2 x → footP bp p b D q vl x ∨ w.heap.size ≤ x) := by
        intro x hx
        rcases hx with rfl | hx | hx
        · exact .inl (.inl rfl)
        · exact .inr (HF1.out x hx)
        · have := hf2 x hx; have := HB1.out.size; exact .inr (by omega)
      have HBK : Hid (w2.heap[bp]? = some (.cells #[.pointer (some ⟨p, 0, none⟩), .pointer (some ⟨q, 0, none⟩)] 57)) := hq2.trans H.out.blk
      clear hq2 hr2 hf2 hb2 ho hsv c0 c1 cf
      go_wp2_with fail
      have HT2 : Hid (w2.turned ((w2.setCell ⟨bp, 0, none⟩ (.pointer (some ⟨p1, 0, none⟩))).setCell ⟨bp, 1, none⟩ (.pointer (some ⟨q2, 0, none⟩))) (fun x => x = bp)) := World.turned.set (S := fun x => x = bp) (World.turned.set (S := fun x => x = bp) (World.turned.refl w2 _) (fun _ => rfl) _) (fun _ => rfl) _
      have HP2 := HP.out _ HT2.out (by rw [setCell_heapB, if_pos rfl, setCell_heapB, if_pos rfl, HBK.out]; rfl)
      exact bodyPost_ret (v := .bool true) (by simp [results, Try.results70, go_sem]) rfl ⟨rfl, _, HP2.isIn, HF2.out, (World.turned.of_below HB2.out _).trans HT2.out fun k hk h => h⟩
end Go.Proofs.Ytcbbnmodjnnbeaa
/- The law on stores: acts that hand out no list. -/
set_option linter.unusedSimpArgs false
set_option linter.unusedVariables false
namespace Go.Proofs.Ytcbbnmodjnnbeaa
open Go.RowKit

set_option maxRecDepth 100000 in
set_option maxHeartbeats 4000000 in
theorem actRevs (w : World) (bp kb p b : Nat) (D : DataW Value) (q : Nat) (vl : Value) (l : List KV) (s : St) (h : PairAt w bp p b D q vl l s) (cv : Value) (fr to t : ByteArray) (rev most : Int) (av : Option Addr) (al ac : Nat) (hcv : cv = .slice av al ac) :
    Calls Try.prog 27 #[.pointer (some ⟨bp, 0, none⟩), .agg #[.int .i64 3, cv, .string fr, .string to, .int .i64 rev, .int .i64 most, .string t], .pointer (some ⟨kb, 0, none⟩)] w fun e w' => e = .returned (.bool true) ∧ Below w.heap.size w w' := by
  subst hcv
  have H : Hid (PairAt w bp p b D q vl l s) := h
  obtain ⟨c0, c1, cf⟩ := pair_cells h.blk
  have hbp := h.lt
  clear h
  go_enter Try.func27, Try.ntmps27
  go_wp2_with fail
  refine (storeRevs _ p b D s (H.out.grown (by repeat (first | exact Below.refl _ _ | assumption | with_reducible refine below_drewN ?_ _ | refine Gr.ext ?_ _ | refine Gr.alloc ?_ _ | refine Gr.drew ?_ | (refine Gr.set ?_ (by first | (simp; done) | (simp; omega)) _)))).st).mono ?_
  rintro e w1 ⟨rfl, hb1'⟩
  have hb1 : Below w.heap.size w w1 := below_via hb1' (by repeat (first | exact Below.refl _ _ | assumption | with_reducible refine below_drewN ?_ _ | refine Gr.ext ?_ _ | refine Gr.alloc ?_ _ | refine Gr.drew ?_ | (refine Gr.set ?_ (by first | (simp; done) | (simp; omega)) _)))
  clear hb1'
  have hq1 : q < w1.heap.size := by have := H.out.rf.lt; have := hb1.size; omega
  obtain ⟨d0, d1, d2, df⟩ := rs_cells (H.out.rf.grown hb1).blk
  obtain ⟨k0, k1, kf⟩ := pair_cells (H.out.grown hb1).blk
  have HB : Hid (Below w.heap.size w w1) := hb1
  clear hb1 c0 c1 cf
  go_wp2_with fail
  exact bodyPost_ret (v := .bool true) (by simp [results, Try.results27, go_sem]) rfl ⟨rfl, HB.out⟩
set_option maxRecDepth 100000 in
set_option maxHeartbeats 4000000 in
theorem actSave (w : World) (bp kb p b : Nat) (D : DataW Value) (q : Nat) (vl : Value) (l : List KV) (s : St) (h : PairAt w bp p b D q vl l s) (cv : Value) (fr to t : ByteArray) (rev most : Int) (av : Option Addr) (al ac : Nat) (hcv : cv = .slice av al ac) :
    Calls Try.prog 27 #[.pointer (some ⟨bp, 0, none⟩), .agg #[.int .i64 4, cv, .string fr, .string to, .int .i64 rev, .int .i64 most, .string t], .pointer (some ⟨kb, 0, none⟩)] w fun e w' => e = .returned (.bool true) ∧ Below w.heap.size w w' := by
  subst hcv
  have H : Hid (PairAt w bp p b D q vl l s) := h
  obtain ⟨c0, c1, cf⟩ := pair_cells h.blk
  have hbp := h.lt
  clear h
  go_enter Try.func27, Try.ntmps27
  go_wp2_with fail
  refine (storeSave _ p b D s (H.out.grown (by repeat (first | exact Below.refl _ _ | assumption | with_reducible refine below_drewN ?_ _ | refine Gr.ext ?_ _ | refine Gr.alloc ?_ _ | refine Gr.drew ?_ | (refine Gr.set ?_ (by first | (simp; done) | (simp; omega)) _)))).st H.out.sav.bnd).mono ?_
  rintro e w1 ⟨ks, hks, rfl, hb1'⟩
  have hb1 : Below w.heap.size w w1 := below_via hb1' (by repeat (first | exact Below.refl _ _ | assumption | with_reducible refine below_drewN ?_ _ | refine Gr.ext ?_ _ | refine Gr.alloc ?_ _ | refine Gr.drew ?_ | (refine Gr.set ?_ (by first | (simp; done) | (simp; omega)) _)))
  clear hb1'
  obtain ⟨k0, k1, kf⟩ := pair_cells (H.out.grown hb1).blk
  have hbp1 : bp < w1.heap.size := by have := hb1.size; omega
  have HB : Hid (Below w.heap.size w w1) := hb1
  clear hb1 c0 c1 cf
  go_wp2_with fail
  refine (refSave _ q vl s l ((H.out.grown HB.out).grown (by repeat (first | exact Below.refl _ _ | assumption | with_reducible refine below_drewN ?_ _ | refine Gr.ext ?_ _ | refine Gr.alloc ?_ _ | refine Gr.drew ?_ | (refine Gr.set ?_ (by first | (simp; done) | (simp; omega)) _)))).rf H.out.sav).mono ?_
  rintro e w2 ⟨ks2, hks2, rfl, hb2⟩
  rw [← saveL_same hks hks2]
  have HB2 : Hid (Below w.heap.size w w2) := HB.out.trans (hb2.mono HB.out.size)
  obtain ⟨u, hu⟩ : ∃ u, B (saveL s ks) = u := ⟨_, rfl⟩
  rw [hu]
  clear hb2 k0 k1 kf
  go_wp2_with fail
  exact bodyPost_ret (v := .bool true) (by simp [results, Try.results27, go_sem]) rfl ⟨rfl, HB2.out⟩
set_option maxRecDepth 100000 in
set_option maxHeartbeats 4000000 in
theorem actLoad (w : World) (bp kb p b : Nat) (D : DataW Value) (q : Nat) (vl : Value) (l : List KV) (s : St) (h : PairAt w bp p b D q vl l s) (cv : Value) (fr to t : ByteArray) (rev most : Int) (av : Option Addr) (al ac : Nat) (hcv : cv = .slice av al ac) (ht : t.size ≤ 100000000) :
    Calls Try.prog 27 #[.pointer (some ⟨bp, 0, none⟩), .agg #[.int .i64 5, cv, .string fr, .string to, .int .i64 rev, .int .i64 most, .string t], .pointer (some ⟨kb, 0, none⟩)] w fun e w' => e = .returned (.bool true) ∧ ∃ F, PairIn w' bp F ∧ (∀ x, F x → footP bp p b D q vl x ∨ w.heap.size ≤ x) ∧ w.turned w' (fun x => x = bp) := by
  subst hcv
  have H : Hid (PairAt w bp p b D q vl l s) := h
  clear h
  go_enter Try.func27, Try.ntmps27
  go_wp2_with fail
  refine (lawLoads _ bp p b D q vl l s (H.out.grown (by repeat (first | exact Below.refl _ _ | assumption | with_reducible refine below_drewN ?_ _ | refine Gr.ext ?_ _ | refine Gr.alloc ?_ _ | refine Gr.drew ?_ | (refine Gr.set ?_ (by first | (simp; done) | (simp; omega)) _)))) t ht).mono ?_
  rintro e w1 ⟨rfl, F, h1, h2, h3⟩
  go_wp2_with fail
  exact bodyPost_ret (v := .bool true) (by simp [results, Try.results27, go_sem]) rfl ⟨rfl, F, h1, fun x hx => (h2 x hx).imp id (Nat.le_trans ((by repeat (first | exact Below.refl _ _ | assumption | with_reducible refine below_drewN ?_ _ | refine Gr.ext ?_ _ | refine Gr.alloc ?_ _ | refine Gr.drew ?_ | (refine Gr.set ?_ (by first | (simp; done) | (simp; omega)) _))) : Below w.heap.size w _).size), (World.turned.of_below ((by repeat (first | exact Below.refl _ _ | assumption | with_reducible refine below_drewN ?_ _ | refine Gr.ext ?_ _ | refine Gr.alloc ?_ _ | refine Gr.drew ?_ | (refine Gr.set ?_ (by first | (simp; done) | (simp; omega)) _))) : Below w.heap.size w _) _).trans h3 fun k _ h => h⟩
set_option maxRecDepth 100000 in
set_option maxHeartbeats 4000000 in
theorem actAgain (w : World) (bp kb p b : Nat) (D : DataW Value) (q : Nat) (vl : Value) (l : List KV) (s : St) (h : PairAt w bp p b D q vl l s) (cv : Value) (fr to t : ByteArray) (rev most : Int) (av : Option Addr) (al ac : Nat) (hcv : cv = .slice av al ac) :
    Calls Try.prog 27 #[.pointer (some ⟨bp, 0, none⟩), .agg #[.int .i64 6, cv, .string fr, .string to, .int .i64 rev, .int .i64 most, .string t], .pointer (some ⟨kb, 0, none⟩)] w fun e w' => e = .returned (.bool true) ∧ ∃ F, PairIn w' bp F ∧ (∀ x, F x → footP bp p b D q vl x ∨ w.heap.size ≤ x) ∧ w.turned w' (fun x => x = bp) := by
  subst hcv
  have H : Hid (PairAt w bp p b D q vl l s) := h
  obtain ⟨c0, c1, cf⟩ := pair_cells h.blk
  have hbp := h.lt
  clear h
  go_enter Try.func27, Try.ntmps27
  go_wp2_with fail
  refine (refSave _ q vl s l (H.out.grown (by repeat (first | exact Below.refl _ _ | assumption | with_reducible refine below_drewN ?_ _ | refine Gr.ext ?_ _ | refine Gr.alloc ?_ _ | refine Gr.drew ?_ | (refine Gr.set ?_ (by first | (simp; done) | (simp; omega)) _)))).rf H.out.sav).mono ?_
  rintro e w1 ⟨ks, hks, rfl, hb1'⟩
  have hb1 : Below w.heap.size w w1 := below_via hb1' (by repeat (first | exact Below.refl _ _ | assumption | with_reducible refine below_drewN ?_ _ | refine Gr.ext ?_ _ | refine Gr.alloc ?_ _ | refine Gr.drew ?_ | (refine Gr.set ?_ (by first | (simp; done) | (simp; omega)) _)))
  clear hb1'
  have HB : Hid (Below w.heap.size w w1) := hb1
  clear hb1 c0 c1 cf
  go_wp2_with fail
  refine (lawLoads _ bp p b D q vl l s ((H.out.grown HB.out).grown (by repeat (first | exact Below.refl _ _ | assumption | with_reducible refine below_drewN ?_ _ | refine Gr.ext ?_ _ | refine Gr.alloc ?_ _ | refine Gr.drew ?_ | (refine Gr.set ?_ (by first | (simp; done) | (simp; omega)) _)))) _ (by rw [B_size]; exact saveL_len8 H.out.sav.bnd hks)).mono ?_
  rintro e w2 ⟨rfl, F, h1, h2, h3⟩
  go_wp2_with fail
  exact bodyPost_ret (v := .bool true) (by simp [results, Try.results27, go_sem]) rfl ⟨rfl, F, h1, fun x hx => (h2 x hx).imp id (Nat.le_trans HB.out.size), (World.turned.of_below HB.out _).trans h3 fun k _ h => h⟩
set_option maxRecDepth 100000 in
set_option maxHeartbeats 4000000 in
theorem actOther (w : World) (bp kb : Nat) (k : Int) (cv : Value) (fr to t : ByteArray) (rev most : Int) (av : Option Addr) (al ac : Nat) (hcv : cv = .slice av al ac) (g1 : (k == 1) = false) (g2 : (k == 2) = false) (g3 : (k == 3) = false) (g4 : (k == 4) = false) (g5 : (k == 5) = false) (g6 : (k == 6) = false) :
    Calls Try.prog 27 #[.pointer (some ⟨bp, 0, none⟩), .agg #[.int .i64 k, cv, .string fr, .string to, .int .i64 rev, .int .i64 most, .string t], .pointer (some ⟨kb, 0, none⟩)] w fun e w' => e = .returned (.bool true) ∧ Below w.heap.size w w' := by
  subst hcv
  go_enter Try.func27, Try.ntmps27
  go_wp2_with fail
  exact bodyPost_ret (v := .bool true) (by simp [results, Try.results27, go_sem]) rfl ⟨rfl, (by repeat (first | exact Below.refl _ _ | assumption | with_reducible refine below_drewN ?_ _ | refine Gr.ext ?_ _ | refine Gr.alloc ?_ _ | refine Gr.drew ?_ | (refine Gr.set ?_ (by first | (simp; done) | (simp; omega)) _)))⟩
end Go.Proofs.Ytcbbnmodjnnbeaa
