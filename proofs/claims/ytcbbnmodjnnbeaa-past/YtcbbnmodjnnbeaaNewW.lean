/- The walk of the store's New. -/
import Derived.Test.YtcbbnmodjnnbeaaResult
import Derived.Carry
set_option linter.unusedSimpArgs false
set_option linter.unusedVariables false
namespace Go.Proofs.Ytcbbnmodjnnbeaa
open Go.RowKit

def St.empty : St := ⟨0, 0, fun _ => [], List.replicate 8 (0, ⟨false, 0, false⟩)⟩
theorem storeNew (w : World) : Calls Try.prog 25 #[] w fun e w' => ∃ p b D, e = .returned (.pointer (some ⟨p, 0, none⟩)) ∧ StoreAt w' p b D St.empty ∧ (∀ x, footS p b D x → w.heap.size ≤ x) ∧ Below w.heap.size w w' := by
  have hmm := @run_makeMap Try.prog
  go_enter Try.func25, Try.ntmps25
  go_wp2_with fail
  refine world_any (F := fun W => W.heap[w.heap.size]? = some (.map #[] 0) ∧ W.heap[w.heap.size + 1]? = some (.cells (St.empty.cells w.heap.size) 141) ∧ Below w.heap.size w W) ⟨Hp.alloc (Hp.new rfl) _, Hp.new (by simp), (by repeat (first | exact Below.refl _ _ | assumption | with_reducible refine below_drewN ?_ _ | refine Gr.ext ?_ _ | refine Gr.alloc ?_ _ | refine Gr.drew ?_ | (refine Gr.set ?_ (by first | (simp; done) | (simp; omega)) _)))⟩ ?_
  rintro W ⟨hm, hc, hB⟩
  have hD : ∀ k u, hdAt (.map []) k u ↔ u = nilS := fun k u => ⟨fun h => by injection h with h; exact h.symm, fun h => by rw [h]; rfl⟩
  have hf : ∀ x, footM w.heap.size (.map []) x → x = w.heap.size := fun x hx => by
    rcases hx with rfl | ⟨k, v, hv, hx⟩
    · rfl
    · rw [(hD k v).1 hv] at hx; cases hx
  refine bodyPost_ret (v := .pointer (some ⟨w.heap.size + 1, 0, none⟩)) (by simp [results, Try.results25, go_sem]) rfl ⟨w.heap.size + 1, w.heap.size, .map [], rfl, ⟨hc, ?_, ⟨by decide, by decide, fun k => List.Pairwise.nil, (fun k v hv => by cases hv), rfl⟩, Nat.zero_le _⟩, fun x hx => ?_, hB⟩
  · refine ⟨?_, fun k => ⟨nilS, (hD k _).2 rfl, World.ownL.nil _ _ _⟩, fun k v x hv hx => ?_, fun k k' v v' x _ hv _ hx => ?_, fun k => ?_⟩
    · have h1 := (World.ownsMap_made (H := Value) W Try.prog 9 rawElem)
      obtain ⟨es, clock, e1, e2, e3, e4⟩ := h1
      rw [heap_alloc_new] at e1
      injection e1 with e1
      injection e1 with e5 e6
      subst e5 e6
      exact ⟨_, _, hm, e2, Nat.zero_le _, e4⟩
    · rw [(hD k v).1 hv] at hx; cases hx
    · rw [(hD k v).1 hv] at hx; cases hx
    · show Maps.has (.map []) (kl k) = true ↔ ([] : List Ver) ≠ []
      simp [Maps.has]
  · rcases hx with rfl | hx
    · omega
    · have := hf x hx; omega
end Go.Proofs.Ytcbbnmodjnnbeaa
