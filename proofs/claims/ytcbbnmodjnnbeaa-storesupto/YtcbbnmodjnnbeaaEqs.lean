/- The store's histories: how many versions are not above a revision; the newest one. -/
import Derived.Test.YtcbbnmodjnnbeaaLists
import Derived.Test.YtcbbnmodjnnbeaaPreds
import Derived.BigQuiet
import Derived.Outline
import Derived.Laws.Bits64
set_option linter.unusedSimpArgs false
set_option linter.unusedVariables false
namespace Go.Proofs.Ytcbbnmodjnnbeaa
open Go.RowKit

structure Ver where
  rev : Nat
  val : ByteArray
  gone : Bool
def Ver.cells (v : Ver) : List Value := [.int .i64 v.rev, .string v.val, .bool v.gone]
theorem Ver.off {w : World} {b p : Nat} {r : Ver} (h : w.rangeAt b p r.cells) : w.cell? ⟨b, p, none⟩ = some (.int .i64 r.rev) ∧ w.cell? ⟨b, p + 1, none⟩ = some (.string r.val) ∧ w.cell? ⟨b, p + 2, none⟩ = some (.bool r.gone) := ⟨h 0 _ rfl, h 1 _ rfl, h 2 _ rfl⟩

/-- The closure that Search asks: is the k-th version above rev? -/
theorem upToLess (w : World) (ba bb g o n cap k : Nat) (rev : Int) (v : Ver) (hk : k < n) (hn : n ≤ 1000000000000) (h0 : w.cell? ⟨ba, 0, none⟩ = some (.slice (some ⟨g, o, none⟩) n cap)) (h1 : w.cell? ⟨bb, 0, none⟩ = some (.int .i64 rev)) (hv : w.rangeAt g (o + k * 3) v.cells) :
    Calls Try.prog 157 #[.int .i64 k, .pointer (some ⟨ba, 0, none⟩), .pointer (some ⟨bb, 0, none⟩)] w fun e w' => e = .returned (.bool (decide (rev < v.rev))) ∧ ∃ m, w' = w.drewN m := by
  obtain ⟨c0, c1, c2⟩ := Ver.off hv
  clear hv
  go_enter Try.func157, Try.ntmps157
  go_wp2
  go_quiet (fail)
  go_wp2
  go_ret
  exact ⟨rfl, nq, rfl⟩

/-- sort.Search over a closure that only reads. -/
theorem sortSearch (w : World) (n : Nat) (p : Nat → Bool) (ba bb : Nat) (hn : n ≤ 1000000000000) (hmono : ∀ i j, i ≤ j → j < n → p i = true → p j = true)
    (hf : ∀ m k, k < n → Calls Try.prog 157 #[.int .i64 k, .pointer (some ⟨ba, 0, none⟩), .pointer (some ⟨bb, 0, none⟩)] (w.drewN m) fun e w' => e = .returned (.bool (p k)) ∧ ∃ q, w' = w.drewN q) (fv : Value) (hfv : fv = .func (.func 157) #[] #[.pointer (some ⟨ba, 0, none⟩), .pointer (some ⟨bb, 0, none⟩)]) :
    Calls Try.prog 156 #[.int .i64 n, fv] w fun e w' => ∃ k : Nat, k ≤ n ∧ (∀ i, i < k → p i = false) ∧ (∀ i, k ≤ i → i < n → p i = true) ∧ e = .returned (.int .i64 k) ∧ ∃ q, w' = w.drewN q := by
  subst hfv
  go_enter Try.func156, Try.ntmps156
  go_wp2
  go_loopw [5, 6] (fun i j wr => ∃ a b m : Nat, a ≤ b ∧ b ≤ n ∧ i = .int .i64 a ∧ j = .int .i64 b ∧ (∀ x, x < a → p x = false) ∧ (∀ x, b ≤ x → x < n → p x = true) ∧ wr = w.drewN m) (fun i j _ => (intOf j).toNat - (intOf i).toNat)
  case atStart => exact ⟨0, n, 0, by omega, by omega, rfl, rfl, fun x hx => by omega, fun x h1 h2 => by omega, rfl⟩
  case round =>
    obtain ⟨a, b, m, hab, hbn, rfl, rfl, ha, hb, rfl⟩ := hrel
    by_cases hlt : a < b
    · obtain ⟨c, HE, hca, hcb⟩ : ∃ c : Nat, Hid (((a : Int) + b) / 2 = (c : Int)) ∧ a ≤ c ∧ c < b := ⟨(a + b) / 2, by show _ = _; omega, by omega, by omega⟩
      have hc := hf m c (by omega)
      cases hp : p c
      · rw [hp] at hc
        go_wp2_with fail
        rw [HE.out]
        refine hc.mono ?_
        rintro e1 w1 ⟨rfl, q, hw1⟩
        have HW : Hid (w1 = w.drewN q) := hw1
        clear hw1
        go_wp2_with fail
        exact ⟨⟨c + 1, b, q, by omega, hbn, val_int (by have := HE.out; omega), rfl, fun x hx => by
          cases hpx : p x
          · rfl
          · exact absurd (hmono x c (by omega) (by omega) hpx) (by rw [hp]; exact Bool.false_ne_true), hb, HW.out⟩, by simp [intOf]; have := HE.out; omega⟩
      · rw [hp] at hc
        go_wp2_with fail
        rw [HE.out]
        refine hc.mono ?_
        rintro e1 w1 ⟨rfl, q, hw1⟩
        have HW : Hid (w1 = w.drewN q) := hw1
        clear hw1
        go_wp2_with fail
        exact ⟨⟨a, c, q, hca, by omega, rfl, val_int (by have := HE.out; omega), ha, fun x h1 h2 => hmono c x h1 h2 hp, HW.out⟩, by simp [intOf]; have := HE.out; omega⟩
    · have hh : a = b := by omega
      subst hh
      go_wp2
      go_ret
      exact ⟨a, hbn, ha, hb, rfl, m, rfl⟩
end Go.Proofs.Ytcbbnmodjnnbeaa
/- The store's histories: upTo, at. -/
set_option linter.unusedSimpArgs false
set_option linter.unusedVariables false
namespace Go.Proofs.Ytcbbnmodjnnbeaa
open Go.RowKit

/-- How many versions are not above a revision. -/
def upToN (vs : List Ver) (rev : Int) : Nat := (vs.takeWhile fun v => decide ((v.rev : Int) ≤ rev)).length
theorem upToN_le (vs : List Ver) (rev : Int) : upToN vs rev ≤ vs.length := by
  unfold upToN; exact (List.takeWhile_prefix _).length_le
def Ver.none : Ver := ⟨0, ⟨#[]⟩, true⟩
/-- The newest version that is not above a revision. -/
def atV (vs : List Ver) (rev : Int) : Ver := if upToN vs rev = 0 then Ver.none else vs[upToN vs rev - 1]?.getD Ver.none
theorem takeWhile_len {α : Type} (q : α → Bool) : ∀ (l : List α) (k : Nat), k ≤ l.length → (∀ i (h : i < l.length), i < k → q l[i] = true) → (∀ (h : k < l.length), q l[k] = false) → (l.takeWhile q).length = k
  | [], k, hk, _, _ => by simp at hk; simp [hk]
  | x :: xs, 0, _, _, h2 => by
    have := h2 (by simp)
    simp at this
    simp [List.takeWhile, this]
  | x :: xs, k + 1, hk, h1, h2 => by
    have hx : q x = true := h1 0 (by simp) (by omega)
    have ih := takeWhile_len q xs k (by simpa using hk) (fun i h hi => h1 (i + 1) (by rw [List.length_cons]; omega) (by omega)) (fun h => h2 (by rw [List.length_cons]; omega))
    simp [List.takeWhile, hx, ih]
def Asc (vs : List Ver) : Prop := vs.Pairwise fun a b => a.rev < b.rev
theorem asc_le {vs : List Ver} (h : Asc vs) {i j : Nat} (hij : i ≤ j) (hj : j < vs.length) : (vs[i]'(by omega)).rev ≤ (vs[j]'hj).rev := by
  rcases Nat.lt_or_eq_of_le hij with h1 | h1
  · exact Nat.le_of_lt (List.pairwise_iff_getElem.1 h i j (by omega) hj h1)
  · subst h1; exact Nat.le_refl _

def above (vs : List Ver) (rev : Int) (i : Nat) : Bool := decide (rev < ((vs[i]?.getD Ver.none).rev : Int))
theorem above_mono {vs : List Ver} (hs : Asc vs) (rev : Int) (i j : Nat) (hij : i ≤ j) (hj : j < vs.length) (h : above vs rev i = true) : above vs rev j = true := by
  unfold above at *
  rw [List.getElem?_eq_getElem (by omega)] at h
  rw [List.getElem?_eq_getElem hj]
  have := asc_le hs hij hj
  simp only [Option.getD_some, decide_eq_true_eq] at *
  omega
theorem upTo_is {vs : List Ver} {rev : Int} {k : Nat} (hk : k ≤ vs.length) (h1 : ∀ i, i < k → above vs rev i = false) (h2 : ∀ i, k ≤ i → i < vs.length → above vs rev i = true) : upToN vs rev = k := by
  refine takeWhile_len _ vs k hk (fun i h hi => ?_) (fun h => ?_)
  · have := h1 i hi
    unfold above at this
    rw [List.getElem?_eq_getElem h] at this
    simp only [Option.getD_some, decide_eq_false_iff_not, decide_eq_true_eq] at *
    omega
  · have := h2 k (Nat.le_refl _) h
    unfold above at this
    rw [List.getElem?_eq_getElem h] at this
    simp only [Option.getD_some, decide_eq_false_iff_not, decide_eq_true_eq] at *
    omega
theorem ver_at {w : World} {a : Option Addr} {cap : Nat} {vs : List Ver} (h : w.reads 3 (.slice a vs.length cap) (vs.map Ver.cells)) {k : Nat} (hk : k < vs.length) : ∃ g o, a = some ⟨g, o, none⟩ ∧ g < w.heap.size ∧ w.rangeAt g (o + k * 3) vs[k].cells := by
  rcases h with ⟨_, h2⟩ | ⟨g, off, cap', hv, hg, hc⟩
  · have : vs = [] := by simpa using h2
    subst this; simp at hk
  · injection hv with h1 h2 h3
    exact ⟨g, off, h1, hg, (hc k vs[k].cells (by rw [List.getElem?_map, List.getElem?_eq_getElem hk]; rfl)).2⟩
theorem reads_lt' {w : World} {sz : Nat} {v : Value} {cs : List (List Value)} (h : w.reads sz v cs) {k : Nat} (hk : v.ownBlock = some k) : k < w.heap.size := by
  rcases h with ⟨rfl, _⟩ | ⟨g, off, cap, rfl, hg, _⟩
  · cases hk
  · cases hk; exact hg
theorem range_alloc {w : World} {b o : Nat} {cs : List Value} (h : w.rangeAt b o cs) (hb : b < w.heap.size) (x : Obj) : (w.alloc x).rangeAt b o cs := fun j v hv => by
  rw [World.cell?_of_block (w := w) (Below.heap_alloc _ _ _ hb)]; exact h j v hv

set_option maxRecDepth 100000 in
theorem histUpTo (w : World) (a : Option Addr) (cap : Nat) (vs : List Ver) (rev : Int) (hn : vs.length ≤ 1000000000000) (hr : w.reads 3 (.slice a vs.length cap) (vs.map Ver.cells)) (hs : Asc vs) :
    Calls Try.prog 122 #[.slice a vs.length cap, .int .i64 rev] w fun e w' => e = .returned (.int .i64 (upToN vs rev)) ∧ Below w.heap.size w w' := by
  go_enter Try.func122, Try.ntmps122
  go_wp2_with fail
  refine (sortSearch _ vs.length (above vs rev) w.heap.size (w.heap.size + 1) hn (fun i j hij hj h => above_mono hs rev i j hij hj h) (fun m k hk => ?_) _ rfl).mono ?_
  · obtain ⟨g, o, rfl, hg, hv⟩ := ver_at hr hk
    have h := upToLess (((w.alloc (.cells #[.slice (some ⟨g, o, none⟩) vs.length cap] 160)).alloc (.cells #[.int .i64 rev] 3)).drewN m) w.heap.size (w.heap.size + 1) g o vs.length cap k rev vs[k] hk hn ?_ ?_ ?_
    · have e : above vs rev k = decide (rev < (vs[k].rev : Int)) := by unfold above; rw [List.getElem?_eq_getElem hk]; rfl
      rw [e]
      exact h.mono fun e w' ⟨he, q, hq⟩ => ⟨he, m + q, by rw [hq, World.drewN_drewN]⟩
    · go_simp
    · go_simp
    · exact drewN_range (range_alloc (range_alloc hv hg _) (by simp; omega) _) m
  · rintro e w1 ⟨k, hk, h1, h2, rfl, q, rfl⟩
    have hu := upTo_is hk h1 h2
    subst hu
    go_wp2_with fail
    go_ret
    exact ⟨rfl, (by repeat (first | exact Below.refl _ _ | assumption | with_reducible refine below_drewN ?_ _ | refine Gr.ext ?_ _ | refine Gr.alloc ?_ _ | refine Gr.drew ?_ | (refine Gr.set ?_ (by first | (simp; done) | (simp; omega)) _)))⟩

set_option maxRecDepth 100000 in
theorem histAt (w : World) (a : Option Addr) (cap : Nat) (vs : List Ver) (rev : Int) (hn : vs.length ≤ 1000000000000) (hr : w.reads 3 (.slice a vs.length cap) (vs.map Ver.cells)) (hs : Asc vs) :
    Calls Try.prog 74 #[.slice a vs.length cap, .int .i64 rev] w fun e w' => e = .returned (.agg (atV vs rev).cells.toArray) ∧ Below w.heap.size w w' := by
  have hr' : ∀ o, (w.alloc o).reads 3 (.slice a vs.length cap) (vs.map Ver.cells) := fun o => hr.keep fun k hk => Below.heap_alloc _ _ _ (reads_lt' hr hk)
  have hle := upToN_le vs rev
  have hle' : (upToN vs rev : Int) ≤ vs.length := by omega
  by_cases h0 : upToN vs rev = 0
  · have HA : Hid (atV vs rev = Ver.none) := by show _ = _; unfold atV; rw [if_pos h0]
    go_enter Try.func74, Try.ntmps74
    go_wp2_with fail
    refine (histUpTo _ a cap vs rev hn (hr' _) hs).mono ?_
    rw [h0]
    rintro e w1 ⟨rfl, hb⟩
    obtain ⟨x, rfl⟩ := Below.ext hb
    clear hb
    go_wp2_with fail
    refine bodyPost_ret (v := .agg (atV vs rev).cells.toArray) (by rw [HA.out]; simp [results, Try.results74, go_sem, Ver.cells, Ver.none]) rfl ⟨rfl, (by repeat (first | exact Below.refl _ _ | assumption | with_reducible refine below_drewN ?_ _ | refine Gr.ext ?_ _ | refine Gr.alloc ?_ _ | refine Gr.drew ?_ | (refine Gr.set ?_ (by first | (simp; done) | (simp; omega)) _)))⟩
  · have hk : upToN vs rev - 1 < vs.length := by omega
    have HA : Hid (atV vs rev = vs[upToN vs rev - 1]) := by show _ = _; unfold atV; rw [if_neg h0, List.getElem?_eq_getElem hk]; rfl
    obtain ⟨g, o, rfl, hg, hv⟩ := ver_at hr hk
    obtain ⟨m, hm⟩ : ∃ m, upToN vs rev = m + 1 := ⟨upToN vs rev - 1, by omega⟩
    have HA2 : Hid (atV vs rev = vs[m]'(by omega)) := by show _ = _; rw [HA.out]; congr 1; omega
    have hv' : w.rangeAt g (o + m * 3) (vs[m]'(by omega)).cells := by
      have e : upToN vs rev - 1 = m := by omega
      simp only [e] at hv
      exact hv
    generalize (vs[m]'(by omega)) = v at HA2 hv'
    obtain ⟨c0, c1, c2⟩ := Ver.off hv'
    have hml : m < vs.length := by omega
    have hmi : (m : Int) < vs.length := by omega
    clear hv hv' HA hle hle' hk
    go_enter Try.func74, Try.ntmps74
    go_wp2_with fail
    refine (histUpTo _ _ cap vs rev hn (hr' _) hs).mono ?_
    rw [hm]
    rintro e w1 ⟨rfl, hb⟩
    obtain ⟨x, rfl⟩ := Below.ext hb
    clear hb hm h0
    go_wp2_with fail
    refine bodyPost_ret (v := .agg (atV vs rev).cells.toArray) (by rw [HA2.out]; simp [results, Try.results74, go_sem, Ver.cells]) rfl ⟨rfl, (by repeat (first | exact Below.refl _ _ | assumption | with_reducible refine below_drewN ?_ _ | refine Gr.ext ?_ _ | refine Gr.alloc ?_ _ | refine Gr.drew ?_ | (refine Gr.set ?_ (by first | (simp; done) | (simp; omega)) _)))⟩
end Go.Proofs.Ytcbbnmodjnnbeaa
/- Results, founds and entries as values; what == and != on them come to. -/
set_option linter.unusedSimpArgs false
set_option linter.unusedVariables false
namespace Go.Proofs.Ytcbbnmodjnnbeaa
open Go.RowKit

structure Res where
  ok : Bool
  rev : Int
  stale : Bool
structure Fnd where
  key : ByteArray
  val : ByteArray
  rev : Int
structure Entry where
  term : Int
  cmd : Cmd
def Res.cells (r : Res) : List Value := [.bool r.ok, .int .i64 r.rev, .bool r.stale]
def Fnd.cells (r : Fnd) : List Value := [.string r.key, .string r.val, .int .i64 r.rev]
def Entry.cells (r : Entry) : List Value := [.int .i64 r.term, .int .i64 r.cmd.kind, .string r.cmd.key, .string r.cmd.val, .string r.cmd.old, .int .i64 r.cmd.rev, .int .i64 r.cmd.ses, .int .i64 r.cmd.seq]
def Res.same (a b : Res) : Bool := (a.ok == b.ok) && ((a.rev == b.rev) && (a.stale == b.stale))
def Fnd.same (a b : Fnd) : Bool := (a.key == b.key) && ((a.val == b.val) && (a.rev == b.rev))
def Entry.same (a b : Entry) : Bool := (a.term == b.term) && Cmd.same a.cmd b.cmd
theorem Res.same_iff (a b : Res) : Res.same a b = true ↔ a = b := by
  cases a; cases b; simp only [Res.same, Bool.and_eq_true, beq_iff_eq, Res.mk.injEq]
theorem Fnd.same_iff (a b : Fnd) : Fnd.same a b = true ↔ a = b := by
  cases a; cases b; simp only [Fnd.same, Bool.and_eq_true, beq_iff_eq, beq_bytes, Fnd.mk.injEq]
theorem Entry.same_iff (a b : Entry) : Entry.same a b = true ↔ a = b := by
  cases a; cases b; simp only [Entry.same, Bool.and_eq_true, beq_iff_eq, Cmd.same_iff, Entry.mk.injEq]

theorem eqFields_bool {w : World} {d : Nat} {xs ys : Array Value} {n : String} {off bo : Nat} {e : Bool} {tg pk : String} {fs : List Field} {a b : Bool} {r' : Bool} (hn : n ≠ "_") (pa : xs[off]? = some (.bool a)) (pb : ys[off]? = some (.bool b))
    (hr : (Op.eqFields (d + 1) xs ys fs).run Try.prog w = .ok r' w) : (Op.eqFields (d + 1) xs ys (⟨n, 4, off, e, tg, pk, bo⟩ :: fs)).run Try.prog w = .ok ((a == b) && r') w :=
  eqFields_cons w (d + 1) xs ys _ fs _ _ _ _ hn (run_part_plain _ _ _ _ _ (by kernel_rfl) pa) (run_part_plain _ _ _ _ _ (by kernel_rfl) pb) (run_equalIn_bool w d _ a b Try.underlying4) hr

theorem eqIn_res (d : Nat) (a b : Res) (w : World) : (Op.equalIn (d + 2) 72 (.agg #[.bool a.ok, .int .i64 a.rev, .bool a.stale]) (.agg #[.bool b.ok, .int .i64 b.rev, .bool b.stale])).run Try.prog w = .ok (Res.same a b) w := by
  rw [run_equalIn_struct w (d + 1) _ _ _ (by kernel_rfl) (by kernel_rfl)]
  have hf : (Program.fieldsOf Try.prog 72).toList = [⟨ "OK", 4, 0, false, "", "", 0⟩, ⟨ "Rev", 3, 1, false, "", "", 8⟩, ⟨ "Stale", 4, 2, false, "", "", 16⟩] := by kernel_rfl
  rw [hf]
  have h := eqFields_bool (w := w) (d := d) (xs := #[.bool a.ok, .int .i64 a.rev, .bool a.stale]) (ys := #[.bool b.ok, .int .i64 b.rev, .bool b.stale]) (n := "OK") (off := 0) (bo := 0) (e := false) (tg := "") (pk := "") (by decide) rfl rfl
    (eqFields_int (n := "Rev") (off := 1) (bo := 8) (e := false) (tg := "") (pk := "") (by decide) rfl rfl (eqFields_bool (n := "Stale") (off := 2) (bo := 16) (e := false) (tg := "") (pk := "") (by decide) rfl rfl (eqFields_nil _ _ _ _)))
  rw [h, Bool.and_true]
  rfl
theorem eqIn_fnd (d : Nat) (a b : Fnd) (w : World) : (Op.equalIn (d + 2) 131 (.agg #[.string a.key, .string a.val, .int .i64 a.rev]) (.agg #[.string b.key, .string b.val, .int .i64 b.rev])).run Try.prog w = .ok (Fnd.same a b) w := by
  rw [run_equalIn_struct w (d + 1) _ _ _ (by kernel_rfl) (by kernel_rfl)]
  have hf : (Program.fieldsOf Try.prog 131).toList = [⟨ "Key", 9, 0, false, "", "", 0⟩, ⟨ "Value", 9, 1, false, "", "", 16⟩, ⟨ "Rev", 3, 2, false, "", "", 32⟩] := by kernel_rfl
  rw [hf]
  have h := eqFields_str (w := w) (d := d) (xs := #[.string a.key, .string a.val, .int .i64 a.rev]) (ys := #[.string b.key, .string b.val, .int .i64 b.rev]) (n := "Key") (off := 0) (bo := 0) (e := false) (tg := "") (pk := "") (by decide) rfl rfl
    (eqFields_str (n := "Value") (off := 1) (bo := 16) (e := false) (tg := "") (pk := "") (by decide) rfl rfl (eqFields_int (n := "Rev") (off := 2) (bo := 32) (e := false) (tg := "") (pk := "") (by decide) rfl rfl (eqFields_nil _ _ _ _)))
  rw [h, Bool.and_true]
  rfl
theorem part_cmd1 (r : Entry) (w : World) : (part 23 #[.int .i64 r.term, .int .i64 r.cmd.kind, .string r.cmd.key, .string r.cmd.val, .string r.cmd.old, .int .i64 r.cmd.rev, .int .i64 r.cmd.ses, .int .i64 r.cmd.seq] 1).run Try.prog w = .ok r.cmd.v w := by
  kernel_rfl
theorem eqIn_entry (d : Nat) (a b : Entry) (w : World) : (Op.equalIn (d + 3) 135 (.agg a.cells.toArray) (.agg b.cells.toArray)).run Try.prog w = .ok (Entry.same a b) w := by
  rw [run_equalIn_struct w (d + 2) _ _ _ (by kernel_rfl) (by kernel_rfl)]
  have hf : (Program.fieldsOf Try.prog 135).toList = [⟨ "Term", 3, 0, false, "", "", 0⟩, ⟨ "Command", 23, 1, false, "", "", 8⟩] := by kernel_rfl
  rw [hf]
  have h := eqFields_int (w := w) (d := d + 1) (xs := a.cells.toArray) (ys := b.cells.toArray) (n := "Term") (off := 0) (bo := 0) (e := false) (tg := "") (pk := "") (by decide) rfl rfl
    (eqFields_cons w (d + 2) _ _ ⟨ "Command", 23, 1, false, "", "", 8⟩ _ a.cmd.v b.cmd.v _ _ (by decide) (part_cmd1 a w) (part_cmd1 b w) (eqIn_cmd d a.cmd b.cmd w) (eqFields_nil _ _ _ _))
  rw [h, Bool.and_true]
  rfl
theorem neq_res (a b : Res) (w : World) : (binOp .neq 72 (.agg #[.bool a.ok, .int .i64 a.rev, .bool a.stale]) (.agg #[.bool b.ok, .int .i64 b.rev, .bool b.stale])).run Try.prog w = .ok (.bool (!Res.same a b)) w := by
  rw [run_neq_struct, eqIn_res 9998]; rfl
theorem neq_fnd (a b : Fnd) (w : World) : (binOp .neq 131 (.agg #[.string a.key, .string a.val, .int .i64 a.rev]) (.agg #[.string b.key, .string b.val, .int .i64 b.rev])).run Try.prog w = .ok (.bool (!Fnd.same a b)) w := by
  rw [run_neq_struct, eqIn_fnd 9998]; rfl
theorem neq_entry (a b : Entry) (w : World) : (binOp .neq 135 (.agg #[.int .i64 a.term, .int .i64 a.cmd.kind, .string a.cmd.key, .string a.cmd.val, .string a.cmd.old, .int .i64 a.cmd.rev, .int .i64 a.cmd.ses, .int .i64 a.cmd.seq]) (.agg #[.int .i64 b.term, .int .i64 b.cmd.kind, .string b.cmd.key, .string b.cmd.val, .string b.cmd.old, .int .i64 b.cmd.rev, .int .i64 b.cmd.ses, .int .i64 b.cmd.seq])).run Try.prog w = .ok (.bool (!Entry.same a b)) w := by
  have h := eqIn_entry 9997 a b w
  rw [run_neq_struct]
  unfold Entry.cells at h
  rw [h]; rfl
theorem neq_rec (a b : Rec) (w : World) : (binOp .neq 25 (.agg #[.int .i64 a.kind, .int .i64 a.gen, .int .i64 a.index, .int .i64 a.term, .int .i64 a.vote, .int .i64 a.many, .int .i64 a.cmd.kind, .string a.cmd.key, .string a.cmd.val, .string a.cmd.old, .int .i64 a.cmd.rev, .int .i64 a.cmd.ses, .int .i64 a.cmd.seq, .string a.data]) (.agg #[.int .i64 b.kind, .int .i64 b.gen, .int .i64 b.index, .int .i64 b.term, .int .i64 b.vote, .int .i64 b.many, .int .i64 b.cmd.kind, .string b.cmd.key, .string b.cmd.val, .string b.cmd.old, .int .i64 b.cmd.rev, .int .i64 b.cmd.ses, .int .i64 b.cmd.seq, .string b.data])).run Try.prog w = .ok (.bool (!Rec.same a b)) w := by
  have h := eqIn_rec 9997 a b w
  unfold Rec.v at h
  rw [run_neq_struct, h]; rfl
theorem neq_cmd (a b : Cmd) (w : World) : (binOp .neq 23 (.agg #[.int .i64 a.kind, .string a.key, .string a.val, .string a.old, .int .i64 a.rev, .int .i64 a.ses, .int .i64 a.seq]) (.agg #[.int .i64 b.kind, .string b.key, .string b.val, .string b.old, .int .i64 b.rev, .int .i64 b.ses, .int .i64 b.seq])).run Try.prog w = .ok (.bool (!Cmd.same a b)) w := by
  have h := eqIn_cmd 9998 a b w
  unfold Cmd.v at h
  rw [run_neq_struct, h]; rfl
end Go.Proofs.Ytcbbnmodjnnbeaa
