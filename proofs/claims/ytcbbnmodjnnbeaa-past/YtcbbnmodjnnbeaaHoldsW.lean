/- The walk of the law's holds: the document's example of a store. -/
import Derived.Test.YtcbbnmodjnnbeaaHoldsP
import Derived.Test.YtcbbnmodjnnbeaaSameFnd
import Derived.Deep.DeepMust
set_option linter.unusedSimpArgs false
set_option linter.unusedVariables false
namespace Go.Proofs.Ytcbbnmodjnnbeaa
open Go.RowKit

theorem holdsEnd {w W0 W w3 : World} {p b : Nat} {D D3 : DataW Value} {s : St} (hS : StoreAt W0 p b D s) (hF : ∀ x, footS p b D x → w.heap.size ≤ x) (h0 : Below w.heap.size w W0) (hW : Below W0.heap.size W0 W) (hf : ∀ x, footM b D3 x → footM b D x ∨ W.heap.size ≤ x) (ht : W.turned w3 (footS p b D)) : Below w.heap.size w w3 ∧ ∀ x, footS p b D3 x → w.heap.size ≤ x := by
  have h1 := h0.size
  have h2 := hW.size
  refine ⟨(h0.trans (hW.mono h1)).trans ⟨ht.os, ht.tape, ht.output, ht.size, fun k hk => ht.block k (by omega) fun hk' => by have := hF k hk'; omega⟩, fun x hx => ?_⟩
  rcases hx with rfl | hx
  · exact hF x (.inl rfl)
  · rcases hf x hx with h3 | h3
    · exact hF x (.inr h3)
    · omega
set_option maxRecDepth 100000 in
set_option maxHeartbeats 4000000 in
theorem lawHolds (w : World) : Calls Try.prog 28 #[] w fun e w' => ∃ p b D, e = .returned (.pointer (some ⟨p, 0, none⟩)) ∧ StoreAt w' p b D st4 ∧ (∀ x, footS p b D x → w.heap.size ≤ x) ∧ Below w.heap.size w w' := by
  go_enter Try.func28, Try.ntmps28
  go_wp2_with (go_at_call 25; go_must (refine (storeNew _).mono ?_; rintro e w1 ⟨p, b, D, rfl, hS, hF, hB⟩; have HS1 : Hid (StoreAt w1 p b D St.empty) := hS; have HF1 : Hid (∀ x, footS p b D x → w.heap.size ≤ x) := hF; obtain ⟨y1, hy1⟩ := Below.ext hB; subst hy1; clear hB hS hF))
  go_wp2_with (go_at_call 31; go_must (refine (holdsDo _ p b D (HS1.out.grown (by repeat (first | exact Below.refl _ _ | assumption | with_reducible refine below_drewN ?_ _ | refine Gr.ext ?_ _ | refine Gr.alloc ?_ _ | refine Gr.drew ?_ | (refine Gr.set ?_ (by first | (simp; done) | (simp; omega)) _)))) _ (fun hf => by have := HS1.out.foot_lt hf; simp [World.ext_size] at this) (Hp.new (by simp [World.ext_size]))).mono ?_; rintro e w3 ⟨g, D3, rfl, hg3, l3a, l3b, hg3', hS3, hf3, ht3⟩; have HB3 : Hid (Below w.heap.size w w3 ∧ ∀ x, footS p b D3 x → w.heap.size ≤ x) := holdsEnd HS1.out HF1.out (by repeat (first | exact Below.refl _ _ | assumption | with_reducible refine below_drewN ?_ _ | refine Gr.ext ?_ _ | refine Gr.alloc ?_ _ | refine Gr.drew ?_ | (refine Gr.set ?_ (by first | (simp; done) | (simp; omega)) _))) (by repeat (first | exact Below.refl _ _ | assumption | with_reducible refine below_drewN ?_ _ | refine Gr.ext ?_ _ | refine Gr.alloc ?_ _ | refine Gr.drew ?_ | (refine Gr.set ?_ (by first | (simp; done) | (simp; omega)) _))) hf3 ht3; have HS3 : Hid (StoreAt w3 p b D3 st4) := hS3; clear hS3 hf3 ht3 hg3'))
  refine (holdsRange2 _ p b D3 HS3.out).mono ?_
  rintro e w4 ⟨a4, c4, rfl, hr4, hb4⟩
  have HR4 : Hid (w4.reads 3 (.slice a4 2 c4) ([(⟨xA, x1, 1⟩ : Fnd), ⟨xB, x2, 2⟩].map Fnd.cells)) := hr4
  obtain ⟨y4, hy4⟩ := Below.ext hb4
  subst hy4
  clear hr4 hb4
  go_wp2_with fail
  refine (holdsRange4 _ p b D3 (HS3.out.grown (by repeat (first | exact Below.refl _ _ | assumption | with_reducible refine below_drewN ?_ _ | refine Gr.ext ?_ _ | refine Gr.alloc ?_ _ | refine Gr.drew ?_ | (refine Gr.set ?_ (by first | (simp; done) | (simp; omega)) _))))).mono ?_
  rintro e w5 ⟨a5, c5, rfl, hr5, hb5⟩
  have HR5 : Hid (w5.reads 3 (.slice a5 1 c5) ([(⟨xA, x3, 3⟩ : Fnd)].map Fnd.cells)) := hr5
  obtain ⟨y5, hy5⟩ := Below.ext hb5
  subst hy5
  clear hr5 hb5
  go_wp2_with fail
  refine (holdsRevs _ p b D3 (HS3.out.grown (by repeat (first | exact Below.refl _ _ | assumption | with_reducible refine below_drewN ?_ _ | refine Gr.ext ?_ _ | refine Gr.alloc ?_ _ | refine Gr.drew ?_ | (refine Gr.set ?_ (by first | (simp; done) | (simp; omega)) _))))).mono ?_
  rintro e w6 ⟨rfl, hb6⟩
  obtain ⟨y6, hy6⟩ := Below.ext hb6
  subst hy6
  clear hb6
  go_wp2_with fail
  refine (holdsSame2 _ a4 c4 _ (readsGrown HR4.out (by repeat (first | exact Below.refl _ _ | assumption | with_reducible refine below_drewN ?_ _ | refine Gr.ext ?_ _ | refine Gr.alloc ?_ _ | refine Gr.drew ?_ | (refine Gr.set ?_ (by first | (simp; done) | (simp; omega)) _)))) (Hp.new (by simp [World.ext_size]))).mono ?_
  rintro e w7 ⟨rfl, n7, rfl⟩
  go_wp2_with fail
  refine (holdsSame4 _ a5 c5 _ (readsGrown HR5.out (by repeat (first | exact Below.refl _ _ | assumption | with_reducible refine below_drewN ?_ _ | refine Gr.ext ?_ _ | refine Gr.alloc ?_ _ | refine Gr.drew ?_ | (refine Gr.set ?_ (by first | (simp; done) | (simp; omega)) _)))) (Hp.new (by simp [World.ext_size, go_sem]))).mono ?_
  rintro e w8 ⟨rfl, n8, rfl⟩
  go_wp2_with fail
  refine world_any (F := fun W => Below w3.heap.size w3 W) (by repeat (first | exact Below.refl _ _ | assumption | with_reducible refine below_drewN ?_ _ | refine Gr.ext ?_ _ | refine Gr.alloc ?_ _ | refine Gr.drew ?_ | (refine Gr.set ?_ (by first | (simp; done) | (simp; omega)) _))) ?_
  intro W hW
  exact bodyPost_ret (v := .pointer (some ⟨p, 0, none⟩)) (by simp [results, Try.results28, go_sem]) rfl ⟨p, b, D3, rfl, HS3.out.grown hW, HB3.out.2, HB3.out.1.trans (hW.mono HB3.out.1.size)⟩
end Go.Proofs.Ytcbbnmodjnnbeaa
