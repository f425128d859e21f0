/- Past's steps: what is read of the two lists; comparisons. -/
import Derived.Test.YtcbbnmodjnnbeaaPastP
set_option linter.unusedSimpArgs false
set_option linter.unusedVariables false
namespace Go.Proofs.Ytcbbnmodjnnbeaa
open Go.RowKit

theorem infoFS : (Try.prog.info? 73).map (fun i => (i.zero, i.size, i.bytes)) = some (some (.slice none 0 0), 1, 24) := by kernel_rfl
theorem infoBool : (Try.prog.info? 4).map (fun i => (i.zero, i.size, i.bytes)) = some (some (.bool false), 1, 1) := by kernel_rfl
variable {w0 wr W : World} {p b : Nat} {D D' : DataW Value} {s s' : St} {v4 v5 v6 v5' v6' : Value} {ls ls' : List Cmd} {hs hs' : List Value} {tl tl' : List (List Fnd)} {bs bs' : List Bool}
theorem own1_at {α : Type} {e : TypeId} {v : Value} {xs : List α} {f : α → Value} (h : W.ownL e 1 v (xs.map fun x => [f x])) {j : Nat} (hj : j < xs.length) : ∃ g c, v = .slice (some ⟨g, 0, none⟩) xs.length c ∧ W.cell? ⟨g, j, none⟩ = some (f xs[j]) ∧ g < W.heap.size := by
  have hr := h.reads
  rcases hr with ⟨_, h2⟩ | ⟨g, off, cap, hv, hg, hc⟩
  · have : xs = [] := by simpa using h2
    subst this; simp at hj
  · rw [List.length_map] at hv
    subst hv
    have ho := (h.off0 (g := g) rfl).1
    injection ho with ho
    injection ho with _ ho
    subst ho
    refine ⟨g, cap, rfl, ?_, hg⟩
    have := (hc j [f xs[j]] (by rw [List.getElem?_map, List.getElem?_eq_getElem hj]; rfl)).2 0 _ rfl
    simpa using this
theorem PMem.shape5 (h : PMem w0 wr p b D s v4 v5 v6 ls hs tl bs) : ∃ a c, v5 = .slice a tl.length c := by
  obtain ⟨a, c, h1⟩ := h.tab.own5.len
  rw [List.length_map, h.tab.len] at h1
  exact ⟨a, c, h1⟩
theorem PMem.shape6 (h : PMem w0 wr p b D s v4 v5 v6 ls hs tl bs) : ∃ a c, v6 = .slice a bs.length c := by
  obtain ⟨a, c, h1⟩ := h.tab.own6.len
  rw [List.length_map] at h1
  exact ⟨a, c, h1⟩
theorem PMem.told {a : Option Addr} {n c : Nat} (h : PMem w0 wr p b D s v4 (.slice a n c) v6 ls hs tl bs) {j : Nat} (hj : j < tl.length) : ∃ (g : Nat) (ah : Option Addr) (ch : Nat) (l0 : List Fnd), a = some ⟨g, 0, none⟩ ∧ tl[j]? = some l0 ∧ wr.cell? ⟨g, j, none⟩ = some (.slice ah l0.length ch) ∧ wr.reads 3 (.slice ah l0.length ch) (l0.map Fnd.cells) ∧ g < wr.heap.size := by
  have hl := h.tab.len
  obtain ⟨g, c', hv, hc, hg⟩ := own1_at (f := id) h.tab.own5 (j := j) (by omega)
  injection hv with hv
  have hrd := h.tab.rd j hs[j] tl[j] (List.getElem?_eq_getElem _) (List.getElem?_eq_getElem _)
  obtain ⟨ah, ch, hh⟩ := hrd.len
  rw [List.length_map] at hh
  rw [hh] at hrd
  exact ⟨g, ah, ch, tl[j], hv, List.getElem?_eq_getElem _, by rw [hc]; exact congrArg some hh, hrd, hg⟩
theorem PMem.have_ {a : Option Addr} {n c : Nat} (h : PMem w0 wr p b D s v4 v5 (.slice a n c) ls hs tl bs) {j : Nat} (hj : j < bs.length) : ∃ (g : Nat) (bv : Bool), a = some ⟨g, 0, none⟩ ∧ bs[j]? = some bv ∧ wr.cell? ⟨g, j, none⟩ = some (.bool bv) ∧ g < wr.heap.size := by
  obtain ⟨g, c', hv, hc, hg⟩ := own1_at (f := Value.bool) h.tab.own6 (j := j) hj
  injection hv with hv
  exact ⟨g, bs[j], hv, List.getElem?_eq_getElem _, hc, hg⟩
set_option maxRecDepth 100000 in
theorem sameFounds_nil (a : Option Addr) (n c : Nat) (w : World) : Calls Try.prog 33 #[nilS, .slice a n c] w fun e w' => ∃ x, e = .returned (.bool x) ∧ ∃ m, w' = w.drewN m := by
  rcases Nat.eq_zero_or_pos n with rfl | hn
  · go_enter Try.func33, Try.ntmps33
    go_wp2
    go_loopw [5] (fun i wr => i = .int .i64 0 ∧ wr = w) (fun _ _ => 0)
    case atStart => exact ⟨rfl, rfl⟩
    case round =>
      obtain ⟨rfl, rfl⟩ := hrel
      go_wp2
      go_ret
      exact ⟨true, rfl, 0, rfl⟩
  · have h1 : ((0 : Int) == (n : Int)) = false := by rw [beq_eq_false_iff_ne]; omega
    have h2 : ¬ (0 : Int) = (n : Int) := by omega
    go_enter Try.func33, Try.ntmps33
    go_wp2
    go_ret
    exact ⟨false, rfl, 0, rfl⟩
theorem pastRange (W : World) (p b : Nat) (D : DataW Value) (s : St) (h : StoreAt W p b D s) (rev : Nat) (h1 : s.floor ≤ rev) (h2 : rev ≤ s.rev) :
    Calls Try.prog 32 #[.pointer (some ⟨p, 0, none⟩), .string ⟨#[]⟩, .string ⟨#[]⟩, .int .i64 rev, .int .i64 1000] W fun e w' => ∃ (l' : List Fnd) (a : Option Addr) (cap : Nat), e = .returned (.tuple #[.slice a (l'.take 1000).length cap, .int .i64 0]) ∧ RangeIs s xN xN rev l' ∧ w'.reads 3 (.slice a (l'.take 1000).length cap) ((l'.take 1000).map Fnd.cells) ∧ (∀ x, (Value.slice a (l'.take 1000).length cap).ownBlock = some x → W.heap.size ≤ x) ∧ Below W.heap.size W w' := by
  refine (storeRangeOk W p b D s h xN xN rev 1000 (by omega) (by omega) (by decide)).mono ?_
  rintro e w' ⟨l', v, rfl, hl, ho, hn, hb⟩
  obtain ⟨a, cap, hv⟩ := ho.len
  rw [List.length_map] at hv
  subst hv
  exact ⟨l', a, cap, rfl, hl, ho.reads, hn, hb⟩
theorem pastRangeNo (W : World) (p b : Nat) (D : DataW Value) (s : St) (h : StoreAt W p b D s) (rev : Nat) (h1 : rev < s.floor) :
    Calls Try.prog 32 #[.pointer (some ⟨p, 0, none⟩), .string ⟨#[]⟩, .string ⟨#[]⟩, .int .i64 rev, .int .i64 1000] W fun e w' => e = .returned (.tuple #[nilS, .int .i64 9]) ∧ Below W.heap.size W w' :=
  storeRangeRev W p b D s h xN xN rev 1000 (by decide) (.inl (by omega))
theorem own_frozen {e : TypeId} {sz g n c : Nat} {cs : List (List Value)} (h : W.ownL e sz (.slice (some ⟨g, 0, none⟩) n c) cs) (o : Nat) : W.frozen? ⟨g, o, none⟩ = false := by
  rcases h.1.2 with ⟨hv, _⟩ | ⟨g', cap', cur, hv, _, hb, _⟩
  · cases hv
  · injection hv with e1
    injection e1 with e1
    injection e1 with e1
    subst e1
    simp [World.frozen?, hb]
theorem grew_set (W : World) (g o n c : Nat) (u : Value) : Grew W (W.setCell ⟨g, o, none⟩ u) (.slice (some ⟨g, 0, none⟩) n c) (.slice (some ⟨g, 0, none⟩) n c) :=
  ⟨⟨rfl, rfl, rfl, by simp, fun k _ hne => Below.heap_setCell _ _ _ _ fun e => hne (by rw [e]; rfl)⟩, .inl rfl⟩
theorem PMem.set5 {g n c k : Nat} (h : PMem w0 wr p b D s v4 (.slice (some ⟨g, 0, none⟩) n c) v6 ls hs tl bs) (hk : k < tl.length) (u0 : Value) (l0 : List Fnd) (hr : wr.reads 3 u0 (l0.map Fnd.cells)) (hu : ∀ x, u0.ownBlock = some x → w0.heap.size ≤ x ∧ ¬ footS p b D x ∧ v4.ownBlock ≠ some x ∧ ¬ tabF (.slice (some ⟨g, 0, none⟩) n c) v6 hs x) :
    PMem w0 (wr.setCell ⟨g, k, none⟩ u0) p b D s v4 (.slice (some ⟨g, 0, none⟩) n c) v6 ls (hs.set k u0) (tl.set k l0) bs := by
  have hk' : k < hs.length := by rw [h.tab.len]; exact hk
  have ho := World.ownL.setCell h.tab.own5 (i := k) (j := 0) (c := [hs[k]]) (by rw [List.getElem?_map, List.getElem?_eq_getElem hk']; rfl) (by decide) u0
  simp only [Nat.mul_one, Nat.add_zero, List.set_cons_zero] at ho
  exact h.put5 k u0 l0 hr hu ho (grew_set _ _ _ _ _ _)
theorem PMem.set6 {g n c k : Nat} (h : PMem w0 wr p b D s v4 v5 (.slice (some ⟨g, 0, none⟩) n c) ls hs tl bs) (hk : k < bs.length) (b0 : Bool) :
    PMem w0 (wr.setCell ⟨g, k, none⟩ (.bool b0)) p b D s v4 v5 (.slice (some ⟨g, 0, none⟩) n c) ls hs tl (bs.set k b0) := by
  have ho := World.ownL.setCell h.tab.own6 (i := k) (j := 0) (c := [.bool bs[k]]) (by rw [List.getElem?_map, List.getElem?_eq_getElem hk]; rfl) (by decide) (.bool b0)
  simp only [Nat.mul_one, Nat.add_zero, List.set_cons_zero] at ho
  exact h.put6 k b0 ho (grew_set _ _ _ _ _ _)
def lenV : Value → Nat
  | .slice _ n _ => n
  | _ => 0
end Go.Proofs.Ytcbbnmodjnnbeaa
