/- The store's histories: upTo, at. -/
import Derived.Test.YtcbbnmodjnnbeaaHist
set_option linter.unusedSimpArgs false
set_option linter.unusedVariables false
namespace Go.Proofs.Ytcbbnmodjnnbeaa
open Go.RowKit

/-- How many versions are not above a revision. -/
def upToN (vs : List Ver) (rev : Int) : Nat := (vs.takeWhile fun v => decide ((v.rev : Int) ≤ rev)).length
theorem upToN_le (vs : List Ver) (rev : Int) : upToN vs rev ≤ vs.length := by
  unfold upToN; exact (List.takeWhile_prefix _).length_le
def Ver.none : Ver := ⟨0, ⟨#[]⟩, true⟩
/-- The newest version that is not above a revision. -/
def atV (vs : List Ver) (rev : Int) : Ver := if upToN vs rev = 0 then Ver.none else vs[upToN vs rev - 1]?.getD Ver.none
theorem takeWhile_len {α : Type} (q : α → Bool) : ∀ (l : List α) (k : Nat), k ≤ l.length → (∀ i (h : i < l.length), i < k → q l[i] = true) → (∀ (h : k < l.length), q l[k] = false) → (l.takeWhile q).length = k
  | [], k, hk, _, _ => by simp at hk; simp [hk]
  | x :: xs, 0, _, _, h2 => by
    have := h2 (by simp)
    simp at this
    simp [List.takeWhile, this]
  | x :: xs, k + 1, hk, h1, h2 => by
    have hx : q x = true := h1 0 (by simp) (by omega)
    have ih := takeWhile_len q xs k (by simpa using hk) (fun i h hi => h1 (i + 1) (by rw [List.length_cons]; omega) (by omega)) (fun h => h2 (by rw [List.length_cons]; omega))
    simp [List.takeWhile, hx, ih]
def Asc (vs : List Ver) : Prop := vs.Pairwise fun a b => a.rev < b.rev
theorem asc_le {vs : List Ver} (h : Asc vs) {i j : Nat} (hij : i ≤ j) (hj : j < vs.length) : (vs[i]'(by omega)).rev ≤ (vs[j]'hj).rev := by
  rcases Nat.lt_or_eq_of_le hij with h1 | h1
  · exact Nat.le_of_lt (List.pairwise_iff_getElem.1 h i j (by omega) hj h1)
  · subst h1; exact Nat.le_refl _

def above (vs : List Ver) (rev : Int) (i : Nat) : Bool := decide (rev < ((vs[i]?.getD Ver.none).rev : Int))
theorem above_mono {vs : List Ver} (hs : Asc vs) (rev : Int) (i j : Nat) (hij : i ≤ j) (hj : j < vs.length) (h : above vs rev i = true) : above vs rev j = true := by
  unfold above at *
  rw [List.getElem?_eq_getElem (by omega)] at h
  rw [List.getElem?_eq_getElem hj]
  have := asc_le hs hij hj
  simp only [Option.getD_some, decide_eq_true_eq] at *
  omega
theorem upTo_is {vs : List Ver} {rev : Int} {k : Nat} (hk : k ≤ vs.length) (h1 : ∀ i, i < k → above vs rev i = false) (h2 : ∀ i, k ≤ i → i < vs.length → above vs rev i = true) : upToN vs rev = k := by
  refine takeWhile_len _ vs k hk (fun i h hi => ?_) (fun h => ?_)
  · have := h1 i hi
    unfold above at this
    rw [List.getElem?_eq_getElem h] at this
    simp only [Option.getD_some, decide_eq_false_iff_not, decide_eq_true_eq] at *
    omega
  · have := h2 k (Nat.le_refl _) h
    unfold above at this
    rw [List.getElem?_eq_getElem h] at this
    simp only [Option.getD_some, decide_eq_false_iff_not, decide_eq_true_eq] at *
    omega
theorem ver_at {w : World} {a : Option Addr} {cap : Nat} {vs : List Ver} (h : w.reads 3 (.slice a vs.length cap) (vs.map Ver.cells)) {k : Nat} (hk : k < vs.length) : ∃ g o, a = some ⟨g, o, none⟩ ∧ g < w.heap.size ∧ w.rangeAt g (o + k * 3) vs[k].cells := by
  rcases h with ⟨_, h2⟩ | ⟨g, off, cap', hv, hg, hc⟩
  · have : vs = [] := by simpa using h2
    subst this; simp at hk
  · injection hv with h1 h2 h3
    exact ⟨g, off, h1, hg, (hc k vs[k].cells (by rw [List.getElem?_map, List.getElem?_eq_getElem hk]; rfl)).2⟩
theorem reads_lt' {w : World} {sz : Nat} {v : Value} {cs : List (List Value)} (h : w.reads sz v cs) {k : Nat} (hk : v.ownBlock = some k) : k < w.heap.size := by
  rcases h with ⟨rfl, _⟩ | ⟨g, off, cap, rfl, hg, _⟩
  · cases hk
  · cases hk; exact hg
theorem range_alloc {w : World} {b o : Nat} {cs : List Value} (h : w.rangeAt b o cs) (hb : b < w.heap.size) (x : Obj) : (w.alloc x).rangeAt b o cs := fun j v hv => by
  rw [World.cell?_of_block (w := w) (Below.heap_alloc _ _ _ hb)]; exact h j v hv

set_option maxRecDepth 100000 in
theorem histUpTo (w : World) (a : Option Addr) (cap : Nat) (vs : List Ver) (rev : Int) (hn : vs.length ≤ 1000000000000) (hr : w.reads 3 (.slice a vs.length cap) (vs.map Ver.cells)) (hs : Asc vs) :
    Calls Try.prog 122 #[.slice a vs.length cap, .int .i64 rev] w fun e w' => e = .returned (.int .i64 (upToN vs rev)) ∧ Below w.heap.size w w' := by
  go_enter Try.func122, Try.ntmps122
  go_wp2_with fail
  refine (sortSearch _ vs.length (above vs rev) w.heap.size (w.heap.size + 1) hn (fun i j hij hj h => above_mono hs rev i j hij hj h) (fun m k hk => ?_) _ rfl).mono ?_
  · obtain ⟨g, o, rfl, hg, hv⟩ := ver_at hr hk
    have h := upToLess (((w.alloc (.cells #[.slice (some ⟨g, o, none⟩) vs.length cap] 160)).alloc (.cells #[.int .i64 rev] 3)).drewN m) w.heap.size (w.heap.size + 1) g o vs.length cap k rev vs[k] hk hn ?_ ?_ ?_
    · have e : above vs rev k = decide (rev < (vs[k].rev : Int)) := by unfold above; rw [List.getElem?_eq_getElem hk]; rfl
      rw [e]
      exact h.mono fun e w' ⟨he, q, hq⟩ => ⟨he, m + q, by rw [hq, World.drewN_drewN]⟩
    · go_simp
    · go_simp
    · exact drewN_range (range_alloc (range_alloc hv hg _) (by simp; omega) _) m
  · rintro e w1 ⟨k, hk, h1, h2, rfl, q, rfl⟩
    have hu := upTo_is hk h1 h2
    subst hu
    go_wp2_with fail
    go_ret
    exact ⟨rfl, (by repeat (first | exact Below.refl _ _ | assumption | with_reducible refine below_drewN ?_ _ | refine Gr.ext ?_ _ | refine Gr.alloc ?_ _ | refine Gr.drew ?_ | (refine Gr.set ?_ (by first | (simp; done) | (simp; omega)) _)))⟩

set_option maxRecDepth 100000 in
theorem histAt (w : World) (a : Option Addr) (cap : Nat) (vs : List Ver) (rev : Int) (hn : vs.length ≤ 1000000000000) (hr : w.reads 3 (.slice a vs.length cap) (vs.map Ver.cells)) (hs : Asc vs) :
    Calls Try.prog 74 #[.slice a vs.length cap, .int .i64 rev] w fun e w' => e = .returned (.agg (atV vs rev).cells.toArray) ∧ Below w.heap.size w w' := by
  have hr' : ∀ o, (w.alloc o).reads 3 (.slice a vs.length cap) (vs.map Ver.cells) := fun o => hr.keep fun k hk => Below.heap_alloc _ _ _ (reads_lt' hr hk)
  have hle := upToN_le vs rev
  have hle' : (upToN vs rev : Int) ≤ vs.length := by omega
  by_cases h0 : upToN vs rev = 0
  · have HA : Hid (atV vs rev = Ver.none) := by show _ = _; unfold atV; rw [if_pos h0]
    go_enter Try.func74, Try.ntmps74
    go_wp2_with fail
    refine (histUpTo _ a cap vs rev hn (hr' _) hs).mono ?_
    rw [h0]
    rintro e w1 ⟨rfl, hb⟩
    obtain ⟨x, rfl⟩ := Below.ext hb
    clear hb
    go_wp2_with fail
    refine bodyPost_ret (v := .agg (atV vs rev).cells.toArray) (by rw [HA.out]; simp [results, Try.results74, go_sem, Ver.cells, Ver.none]) rfl ⟨rfl, (by repeat (first | exact Below.refl _ _ | assumption | with_reducible refine below_drewN ?_ _ | refine Gr.ext ?_ _ | refine Gr.alloc ?_ _ | refine Gr.drew ?_ | (refine Gr.set ?_ (by first | (simp; done) | (simp; omega)) _)))⟩
  · have hk : upToN vs rev - 1 < vs.length := by omega
    have HA : Hid (atV vs rev = vs[upToN vs rev - 1]) := by show _ = _; unfold atV; rw [if_neg h0, List.getElem?_eq_getElem hk]; rfl
    obtain ⟨g, o, rfl, hg, hv⟩ := ver_at hr hk
    obtain ⟨m, hm⟩ : ∃ m, upToN vs rev = m + 1 := ⟨upToN vs rev - 1, by omega⟩
    have HA2 : Hid (atV vs rev = vs[m]'(by omega)) := by show _ = _; rw [HA.out]; congr 1; omega
    have hv' : w.rangeAt g (o + m * 3) (vs[m]'(by omega)).cells := by
      have e : upToN vs rev - 1 = m := by omega
      simp only [e] at hv
      exact hv
    generalize (vs[m]'(by omega)) = v at HA2 hv'
    obtain ⟨c0, c1, c2⟩ := Ver.off hv'
    have hml : m < vs.length := by omega
    have hmi : (m : Int) < vs.length := by omega
    clear hv hv' HA hle hle' hk
    go_enter Try.func74, Try.ntmps74
    go_wp2_with fail
    refine (histUpTo _ _ cap vs rev hn (hr' _) hs).mono ?_
    rw [hm]
    rintro e w1 ⟨rfl, hb⟩
    obtain ⟨x, rfl⟩ := Below.ext hb
    clear hb hm h0
    go_wp2_with fail
    refine bodyPost_ret (v := .agg (atV vs rev).cells.toArray) (by rw [HA2.out]; simp [results, Try.results74, go_sem, Ver.cells]) rfl ⟨rfl, (by repeat (first | exact Below.refl _ _ | assumption | with_reducible refine below_drewN ?_ _ | refine Gr.ext ?_ _ | refine Gr.alloc ?_ _ | refine Gr.drew ?_ | (refine Gr.set ?_ (by first | (simp; done) | (simp; omega)) _)))⟩
end Go.Proofs.Ytcbbnmodjnnbeaa
