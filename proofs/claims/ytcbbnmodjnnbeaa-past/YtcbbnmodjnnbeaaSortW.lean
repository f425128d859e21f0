/- slices.Sort of strings, by the library's contract. -/
import Derived.Test.YtcbbnmodjnnbeaaExt
import Derived.Test.YtcbbnmodjnnbeaaProg
import Derived.Shelf.Sort.Plain
import Derived.Sort.OwnSorted
import Derived.Shelf.Slices.In.SortNone
import Derived.Test.YtcbbnmodjnnbeaaLists2
set_option linter.unusedSimpArgs false
set_option linter.unusedVariables false
namespace Go.Proofs.Ytcbbnmodjnnbeaa
open Go.RowKit Go.Sort

def Try.renSort : Go.Shelf.Ren := ⟨fun | 125 => 155 | 128 => 176 | 129 => 177 | 190 => 121 | 258 => 154 | 302 => 167 | 303 => 168 | 304 => 169 | 305 => 170 | 306 => 171 | 307 => 172 | 308 => 173 | 309 => 174 | 310 => 175 | 329 => 181 | 330 => 182 | 333 => 180 | 334 => 183 | 335 => 184 | 336 => 185 | 344 => 187 | n => n,
  fun | 0 => 0 | 3 => 3 | 4 => 4 | 5 => 5 | 9 => 9 | 31 => 155 | 46 => 194 | 51 => 256 | 53 => 258 | 131 => 253 | 182 => 247 | 183 => 248 | 218 => 260 | 222 => 264 | 228 => 267 | 229 => 66 | n => n, fun n => n⟩
theorem Try.laySort : Lays.n190 Try.prog Try.renSort := by
  constructor
  all_goals first | kernel_rfl | (intro w; kernel_rfl)
theorem encStr_str (k : ByteArray) : encStr k.data.toList = .string k := by
  show Value.string ⟨k.data.toList.toArray⟩ = _
  rw [Array.toArray_toList]
theorem sortNil (cap : Nat) (w : World) : Calls Try.prog 121 #[.slice none 0 cap] w fun e w' => e = .returned (.tuple #[]) ∧ Below w.heap.size w w' := by
  exact (calls_of_every_depth fun D => AnyS.slices_Sort_string_none_in Try.laySort D none cap w).mono fun e w' ⟨he, hw⟩ => ⟨he, by subst hw; exact Below.refl _ _⟩
/-- slices.Sort of what is owned. -/
theorem sortOwn (w : World) (v : Value) (ks : List ByteArray) (h : w.ownL 9 1 v (ks.map fun k => [.string k])) (hn : ks.length ≤ 1000000000000) :
    Calls Try.prog 121 #[v] w fun e w' => e = .returned (.tuple #[]) ∧ ∃ ks' : List ByteArray, ks'.Perm ks ∧ (ks'.Pairwise fun a b => a.data.toList ≤ b.data.toList) ∧ w'.ownL 9 1 v (ks'.map fun k => [.string k]) ∧ Grew w w' v v := by
  obtain ⟨h1, h2⟩ := h
  rw [List.length_map] at h1
  have hfl : ∀ l : List ByteArray, (l.map fun k => [Value.string k]).flatten = (l.map fun k => k.data.toList).map encStr := by
    intro l
    induction l with
    | nil => rfl
    | cons x xs ih => rw [List.map_cons, List.flatten_cons, ih, List.map_cons, List.map_cons, encStr_str]; rfl
  rw [hfl] at h1
  rcases h1.2 with ⟨rfl, h0⟩ | ⟨g, cap, cur, rfl, hg, hb, r1, r2, r3, r4⟩
  · have : ks = [] := List.eq_nil_of_length_eq_zero h0
    subst this
    exact (sortNil 0 w).mono fun e w' ⟨he, hB⟩ => ⟨he, [], List.Perm.refl _, List.Pairwise.nil, World.ownL.nil _ _ _, ⟨hB.os, hB.tape, hB.output, hB.size, fun k hk _ => hB.block k hk⟩, .inl rfl⟩
  · have hlen : (ks.map fun k => k.data.toList).length = ks.length := List.length_map _
    have hH : Holds encStr w g 0 (ks.map fun k => k.data.toList).toArray := holds_of_block hb (by rw [hlen]; simpa using r4)
    have hc := Any.slices_Sort_string Try.laySort g 0 cap (ks.map fun k => k.data.toList) w hH (Array.getElem?_eq_some_iff.1 hb).1 (by rw [hlen]; omega)
    rw [hlen] at hc
    refine hc.mono ?_
    rintro e w' ⟨rfl, n, os, rfl⟩
    have hp := List.mergeSort_perm (ks.map fun k => k.data.toList) (fun x y => decide (x ≤ y))
    have tr : ∀ a b c : List UInt8, decide (a ≤ b) = true → decide (b ≤ c) = true → decide (a ≤ c) = true := fun a b c h1 h2 => by simp only [decide_eq_true_eq] at *; exact List.le_trans h1 h2
    have to : ∀ a b : List UInt8, (decide (a ≤ b) || decide (b ≤ a)) = true := fun a b => by simp only [Bool.or_eq_true, decide_eq_true_eq]; exact List.le_total a b
    have hsort := List.pairwise_mergeSort tr to (ks.map fun k => k.data.toList)
    generalize hts : (ks.map fun k => k.data.toList).mergeSort (fun x y => decide (x ≤ y)) = ts at *
    have e1 : ts = (ts.map fun l => (⟨l.toArray⟩ : ByteArray)).map fun k => k.data.toList := by
      rw [List.map_map]
      exact (List.map_id ts).symm
    have e2 : (ts.map fun l => (⟨l.toArray⟩ : ByteArray)).Perm ks := by
      have := hp.map (fun l => (⟨l.toArray⟩ : ByteArray))
      rw [List.map_map] at this
      refine this.trans ?_
      rw [show ((fun l => (⟨l.toArray⟩ : ByteArray)) ∘ fun k : ByteArray => k.data.toList) = id from funext fun k => by show (⟨k.data.toList.toArray⟩ : ByteArray) = k; rw [Array.toArray_toList], List.map_id]
    have hl : ts.length = ks.length := by rw [hp.length_eq, hlen]
    have ho := ownsRow_sorted (n := n) (os := os) (hl.trans hlen.symm) hg hb (by rw [hlen]; exact r1) r2 r3
    rw [hlen] at ho
    refine ⟨rfl, _, e2, ?_, ⟨?_, fun c hc => ?_⟩, grownBy_sorted _, .inl rfl⟩
    · rw [List.pairwise_map]
      exact hsort.imp fun h => by simpa using h
    · rw [List.length_map, List.length_map, hl, hfl, ← e1]
      exact ho
    · obtain ⟨k, _, rfl⟩ := List.mem_map.1 hc
      rfl
end Go.Proofs.Ytcbbnmodjnnbeaa
