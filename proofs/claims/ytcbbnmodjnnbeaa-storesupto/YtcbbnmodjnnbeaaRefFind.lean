/- The document's store (one list of versions, by revisions) against histories by keys: lists. -/
import Derived.Test.YtcbbnmodjnnbeaaLoadP
set_option linter.unusedSimpArgs false
set_option linter.unusedVariables false
namespace Go.Proofs.Ytcbbnmodjnnbeaa
open Go.RowKit

abbrev KV := ByteArray × Ver
def RAsc (l : List KV) : Prop := l.Pairwise fun a b => a.2.rev < b.2.rev
def notAbove (rev : Int) (x : KV) : Bool := decide ((x.2.rev : Int) ≤ rev)
def preL (l : List KV) (rev : Int) : List KV := l.takeWhile (notAbove rev)
theorem versOf_cons (x : KV) (l : List KV) (k : ByteArray) : versOf (x :: l) k = if k = x.1 then x.2 :: versOf l k else versOf l k := by
  show versOf ([x] ++ l) k = _
  rw [versOf_app, versOf_one]
  by_cases h : k = x.1
  · rw [if_pos h, if_pos h]; rfl
  · rw [if_neg h, if_neg h]; rfl
theorem above_none {l : List KV} {rev : Int} (h : ∀ x ∈ l, rev < x.2.rev) (k : ByteArray) : (versOf l k).takeWhile (fun v => decide ((v.rev : Int) ≤ rev)) = [] := by
  cases hl : versOf l k with
  | nil => rfl
  | cons v vs =>
    have hm : (k, v) ∈ l := mem_versOf.1 (by rw [hl]; simp)
    have := h _ hm
    rw [List.takeWhile_cons]
    have h2 : decide ((v.rev : Int) ≤ rev) = false := by simp only at this; rw [decide_eq_false_iff_not]; omega
    simp only [h2, Bool.false_eq_true, if_false]
theorem versOf_pre : ∀ {l : List KV}, RAsc l → ∀ (k : ByteArray) (rev : Int), (versOf l k).takeWhile (fun v => decide ((v.rev : Int) ≤ rev)) = versOf (preL l rev) k
  | [], _, k, rev => rfl
  | x :: l, h, k, rev => by
    obtain ⟨h1, h2⟩ := List.pairwise_cons.1 h
    have ih := versOf_pre h2 k rev
    by_cases hx : (x.2.rev : Int) ≤ rev
    · have hp : preL (x :: l) rev = x :: preL l rev := by
        unfold preL
        rw [List.takeWhile_cons]
        have : notAbove rev x = true := by unfold notAbove; exact decide_eq_true hx
        simp only [this, if_true]
      rw [hp, versOf_cons, versOf_cons]
      by_cases hk : k = x.1
      · rw [if_pos hk, if_pos hk, List.takeWhile_cons]
        have : decide ((x.2.rev : Int) ≤ rev) = true := decide_eq_true hx
        simp only [this, if_true]
        rw [ih]
      · rw [if_neg hk, if_neg hk, ih]
    · have hp : preL (x :: l) rev = [] := by
        unfold preL
        rw [List.takeWhile_cons]
        have : notAbove rev x = false := by unfold notAbove; exact decide_eq_false hx
        simp only [this, Bool.false_eq_true, if_false]
      rw [hp]
      refine above_none (fun y hy => ?_) k
      rcases List.mem_cons.1 hy with rfl | hy
      · omega
      · have := h1 y hy; omega
/-- The newest version of a key that is not above a revision. -/
def newest (l : List KV) (k : ByteArray) (rev : Int) : Option Ver := (versOf (preL l rev) k).getLast?
theorem atV_newest {l : List KV} (h : RAsc l) (k : ByteArray) (rev : Int) : atV (versOf l k) rev = (newest l k rev).getD Ver.none := by
  unfold atV newest upToN
  rw [versOf_pre h k rev]
  have hpre : versOf (preL l rev) k <+: versOf l k := by rw [← versOf_pre h k rev]; exact List.takeWhile_prefix _
  generalize versOf (preL l rev) k = us at *
  by_cases h0 : us.length = 0
  · rw [if_pos h0, List.length_eq_zero_iff.1 h0]; rfl
  · rw [if_neg h0, List.getLast?_eq_getElem?]
    obtain ⟨t, ht⟩ := hpre
    rw [← ht, List.getElem?_append_left (by omega)]
theorem newest_mem {l : List KV} {k : ByteArray} {rev : Int} {v : Ver} (h : newest l k rev = some v) : (k, v) ∈ l ∧ (v.rev : Int) ≤ rev := by
  have hm : v ∈ versOf (preL l rev) k := List.mem_of_getLast? h
  have h1 := mem_versOf.1 hm
  have h2 : (k, v) ∈ l.takeWhile (notAbove rev) := h1
  exact ⟨(List.takeWhile_prefix _).subset h2, by
    have := List.all_eq_true.1 (List.all_takeWhile (p := notAbove rev) (l := l)) _ h2
    unfold notAbove at this
    exact of_decide_eq_true this⟩
/-- What a Floor keeps. -/
def keepB (l : List KV) (f : Int) (x : KV) : Bool := match newest l x.1 f with
  | none => true
  | some v => !(decide (x.2.rev < v.rev) || (decide (x.2.rev = v.rev) && x.2.gone))
def liftL (l : List KV) (f : Int) : List KV := l.filter (keepB l f)
theorem filter_drop : ∀ (vs : List Ver) (n : Nat) (q : Ver → Bool), n ≤ vs.length → (∀ i (h : i < vs.length), q vs[i] = decide (n ≤ i)) → vs.filter q = vs.drop n
  | [], n, q, hn, _ => by simp
  | v :: vs, 0, q, hn, h => by
    rw [List.drop_zero]
    refine List.filter_eq_self.2 fun a ha => ?_
    obtain ⟨i, hi, rfl⟩ := List.getElem_of_mem ha
    rw [h i hi]; simp
  | v :: vs, n + 1, q, hn, h => by
    have h0 := h 0 (by simp)
    simp only [List.getElem_cons_zero] at h0
    rw [List.filter_cons, h0]
    simp only [Nat.not_succ_le_zero, decide_false, Bool.false_eq_true, if_false, List.drop_succ_cons]
    refine filter_drop vs n q (by simpa using hn) fun i hi => ?_
    have := h (i + 1) (by simp; omega)
    simp only [List.getElem_cons_succ] at this
    rw [this]
    simp
theorem versOf_filter (l : List KV) (q : KV → Bool) (k : ByteArray) : versOf (l.filter q) k = (versOf l k).filter fun v => q (k, v) := by
  induction l with
  | nil => rfl
  | cons x l ih =>
    obtain ⟨xk, xv⟩ := x
    rw [List.filter_cons]
    by_cases hk : k = xk
    · subst hk
      cases hq : q (k, xv)
      · simp only [Bool.false_eq_true, if_false]
        rw [ih, versOf_cons, if_pos rfl, List.filter_cons, hq]; simp
      · simp only [if_true]
        rw [versOf_cons, if_pos rfl, ih, versOf_cons, if_pos rfl, List.filter_cons, hq]; simp
    · cases hq : q (xk, xv)
      · simp only [Bool.false_eq_true, if_false]
        rw [ih, versOf_cons, if_neg hk]
      · simp only [if_true]
        rw [versOf_cons, if_neg hk, ih, versOf_cons, if_neg hk]
theorem versOf_asc {l : List KV} (h : RAsc l) (k : ByteArray) : Asc (versOf l k) := by
  unfold versOf Asc
  rw [List.pairwise_map]
  exact h.filter _
/-- A Floor takes of each history what it takes by keys. -/
theorem versOf_lift {l : List KV} (h : RAsc l) (f : Nat) (k : ByteArray) : versOf (liftL l f) k = (versOf l k).drop (dropN (versOf l k) f) := by
  unfold liftL
  rw [versOf_filter]
  have hasc := versOf_asc h k
  have hnew : newest l k f = (versOf (preL l f) k).getLast? := rfl
  have hup : upToN (versOf l k) f = (versOf (preL l f) k).length := by unfold upToN; rw [versOf_pre h k f]
  have hpre : versOf (preL l f) k <+: versOf l k := by rw [← versOf_pre h k f]; exact List.takeWhile_prefix _
  generalize hvs : versOf l k = vs at *
  generalize hus : versOf (preL l f) k = us at *
  have hle : us.length ≤ vs.length := hpre.length_le
  rcases Nat.eq_zero_or_pos us.length with h0 | h0
  · have e : us = [] := List.length_eq_zero_iff.1 h0
    have hn : newest l k f = none := by rw [hnew, e]; rfl
    unfold dropN
    rw [if_neg (by omega), hup, h0, List.drop_zero]
    refine List.filter_eq_self.2 fun v _ => ?_
    unfold keepB
    simp only [hn]
  · obtain ⟨t, ht⟩ := hpre
    have hat : vs[us.length - 1]? = us.getLast? := by rw [List.getLast?_eq_getElem?, ← ht, List.getElem?_append_left (by omega)]
    have hlt : us.length - 1 < vs.length := by omega
    have hn : newest l k f = some vs[us.length - 1] := by rw [hnew, ← hat, List.getElem?_eq_getElem hlt]
    have key : ∀ i (hi : i < vs.length), keepB l f (k, vs[i]) = !(decide (i < us.length - 1) || (decide (i = us.length - 1) && vs[i].gone)) := by
      intro i hi
      unfold keepB
      simp only [hn]
      have h1 : decide (vs[i].rev < vs[us.length - 1].rev) = decide (i < us.length - 1) := by
        rw [decide_eq_decide]
        constructor
        · intro hr
          rcases Nat.lt_or_ge i (us.length - 1) with h2 | h2
          · exact h2
          · have := asc_le hasc h2 hi; omega
        · intro h2
          exact (List.pairwise_iff_getElem.1 hasc) i (us.length - 1) hi hlt h2
      have h2 : decide (vs[i].rev = vs[us.length - 1].rev) = decide (i = us.length - 1) := by
        rw [decide_eq_decide]
        constructor
        · intro hr
          rcases Nat.lt_trichotomy i (us.length - 1) with h3 | h3 | h3
          · have := (List.pairwise_iff_getElem.1 hasc) i (us.length - 1) hi hlt h3; omega
          · exact h3
          · have := (List.pairwise_iff_getElem.1 hasc) (us.length - 1) i hlt hi h3; omega
        · intro h3; subst h3; rfl
      rw [h1, h2]
    unfold dropN
    rw [hup, List.getElem?_eq_getElem hlt, Option.getD_some]
    cases hg : vs[us.length - 1].gone
    · rw [if_pos ⟨h0, rfl⟩]
      refine filter_drop vs _ _ (by omega) fun i hi => ?_
      rw [key i hi, Bool.eq_iff_iff]
      simp only [Bool.not_eq_true', Bool.or_eq_false_iff, decide_eq_false_iff_not, Bool.and_eq_false_iff, decide_eq_true_eq]
      constructor
      · intro h3; omega
      · intro h3
        refine ⟨by omega, ?_⟩
        by_cases e : i = us.length - 1
        · right; subst e; exact hg
        · left; exact e
    · rw [if_neg (by rintro ⟨_, h3⟩; cases h3)]
      refine filter_drop vs _ _ hle fun i hi => ?_
      rw [key i hi, Bool.eq_iff_iff]
      simp only [Bool.not_eq_true', Bool.or_eq_false_iff, decide_eq_false_iff_not, Bool.and_eq_false_iff, decide_eq_true_eq]
      constructor
      · rintro ⟨h3, h4⟩
        rcases h4 with h4 | h4
        · omega
        · rcases Nat.lt_or_ge i us.length with h5 | h5
          · have e : i = us.length - 1 := by omega
            subst e; rw [hg] at h4; cases h4
          · exact h5
      · intro h3
        exact ⟨by omega, .inl (by omega)⟩
end Go.Proofs.Ytcbbnmodjnnbeaa
/- The document's store: what its own loops find, lift, and go on to. -/
set_option linter.unusedSimpArgs false
set_option linter.unusedVariables false
namespace Go.Proofs.Ytcbbnmodjnnbeaa
open Go.RowKit

def hitB (k : ByteArray) (rev : Int) (x : KV) : Bool := decide (x.1 = k ∧ (x.2.rev : Int) ≤ rev)
/-- The place of a key's newest version up to a revision, among the first n. -/
def findN (l : List KV) (k : ByteArray) (rev : Int) : Nat → Int
  | 0 => -1
  | n + 1 => match l[n]? with
    | some x => if hitB k rev x = true then (n : Int) else findN l k rev n
    | none => findN l k rev n
theorem findN_yes {l : List KV} {k : ByteArray} {rev : Int} {n : Nat} {x : KV} (hx : l[n]? = some x) (h : hitB k rev x = true) : findN l k rev (n + 1) = n := by rw [findN, hx]; exact if_pos h
theorem findN_no {l : List KV} {k : ByteArray} {rev : Int} {n : Nat} {x : KV} (hx : l[n]? = some x) (h : hitB k rev x = false) : findN l k rev (n + 1) = findN l k rev n := by rw [findN, hx]; exact if_neg (by simp [h])
theorem findN_spec (l : List KV) (k : ByteArray) (rev : Int) : ∀ n, n ≤ l.length → (findN l k rev n = -1 ∧ (l.take n).filter (hitB k rev) = []) ∨ ∃ (i : Nat) (x : KV), findN l k rev n = (i : Int) ∧ i < n ∧ l[i]? = some x ∧ hitB k rev x = true ∧ ((l.take n).filter (hitB k rev)).getLast? = some x
  | 0, _ => .inl ⟨rfl, rfl⟩
  | n + 1, hn => by
    have hx : l[n]? = some (l[n]'(by omega)) := List.getElem?_eq_getElem (by omega)
    generalize (l[n]'(by omega)) = x at hx
    have ht : l.take (n + 1) = l.take n ++ [x] := by rw [List.take_add_one, hx]; rfl
    cases hh : hitB k rev x
    · rw [findN_no hx hh, ht, List.filter_append]
      have e : [x].filter (hitB k rev) = [] := by simp [hh]
      rw [e, List.append_nil]
      rcases findN_spec l k rev n (by omega) with h | ⟨i, y, h1, h2, h3⟩
      · exact .inl h
      · exact .inr ⟨i, y, h1, by omega, h3⟩
    · rw [findN_yes hx hh, ht, List.filter_append]
      have e : [x].filter (hitB k rev) = [x] := by simp [hh]
      rw [e]
      exact .inr ⟨n, x, rfl, by omega, hx, hh, by simp⟩
theorem pre_filter {l : List KV} (h : RAsc l) (rev : Int) : preL l rev = l.filter (notAbove rev) := by
  unfold preL
  induction l with
  | nil => rfl
  | cons x l ih =>
    obtain ⟨h1, h2⟩ := List.pairwise_cons.1 h
    rw [List.takeWhile_cons, List.filter_cons]
    cases hx : notAbove rev x
    · simp only [Bool.false_eq_true, if_false]
      symm
      rw [List.filter_eq_nil_iff]
      intro y hy
      have := h1 y hy
      unfold notAbove at hx ⊢
      simp only [decide_eq_false_iff_not, decide_eq_true_eq] at hx ⊢
      omega
    · simp only [if_true]; rw [ih h2]
theorem pre_versOf {l : List KV} (h : RAsc l) (k : ByteArray) (rev : Int) : versOf (preL l rev) k = (l.filter (hitB k rev)).map (·.2) := by
  rw [pre_filter h]
  unfold versOf
  rw [List.filter_filter]
  congr 1
  apply List.filter_congr
  intro x _
  unfold hitB notAbove
  simp
theorem find_newest {l : List KV} (h : RAsc l) (k : ByteArray) (rev : Int) : (findN l k rev l.length = -1 ∧ newest l k rev = none) ∨ ∃ (i : Nat) (v : Ver), findN l k rev l.length = (i : Int) ∧ i < l.length ∧ l[i]? = some (k, v) ∧ newest l k rev = some v := by
  have hn : newest l k rev = ((l.filter (hitB k rev)).getLast?).map (·.2) := by
    unfold newest; rw [pre_versOf h, List.getLast?_map]
  have h1 := findN_spec l k rev l.length (Nat.le_refl _)
  rw [List.take_length] at h1
  rcases h1 with ⟨h1, h2⟩ | ⟨i, x, h1, h2, h3, h4, h5⟩
  · exact .inl ⟨h1, by rw [hn, h2]; rfl⟩
  · refine .inr ⟨i, x.2, h1, h2, ?_, by rw [hn, h5]; rfl⟩
    rw [h3]
    unfold hitB at h4
    have := (of_decide_eq_true h4).1
    rw [← this]
/-- What is told of a key at a revision: is it there? -/
theorem atV_find {l : List KV} (h : RAsc l) (k : ByteArray) (rev : Int) : atV (versOf l k) rev = (newest l k rev).getD Ver.none := atV_newest h k rev
theorem rasc_lt {l : List KV} (h : RAsc l) {i j : Nat} {x y : KV} (hx : l[i]? = some x) (hy : l[j]? = some y) : (x.2.rev < y.2.rev ↔ i < j) ∧ (x.2.rev = y.2.rev ↔ i = j) := by
  obtain ⟨hi, rfl⟩ := List.getElem?_eq_some_iff.1 hx
  obtain ⟨hj, rfl⟩ := List.getElem?_eq_some_iff.1 hy
  have hp := List.pairwise_iff_getElem.1 h
  rcases Nat.lt_trichotomy i j with h1 | h1 | h1
  · have := hp i j hi hj h1
    constructor <;> constructor <;> intro <;> omega
  · subst h1
    constructor <;> constructor <;> intro <;> omega
  · have := hp j i hj hi h1
    constructor <;> constructor <;> intro <;> omega
/-- A Floor keeps, by places. -/
theorem keep_at {l : List KV} (h : RAsc l) (f : Int) {i : Nat} {x : KV} (hx : l[i]? = some x) : keepB l f x = !(decide ((i : Int) < findN l x.1 f l.length) || (decide ((i : Int) = findN l x.1 f l.length) && x.2.gone)) := by
  unfold keepB
  rcases find_newest h x.1 f with ⟨h1, h2⟩ | ⟨j, v, h1, h2, h3, h4⟩
  · rw [h1, h2]
    have e1 : decide ((i : Int) < -1) = false := decide_eq_false (by omega)
    have e2 : decide ((i : Int) = -1) = false := decide_eq_false (by omega)
    rw [e1, e2]; rfl
  · rw [h1, h4]
    have hr := rasc_lt h hx h3
    have e1 : decide (x.2.rev < v.rev) = decide ((i : Int) < (j : Int)) := by rw [decide_eq_decide]; have := hr.1; simp only at this; omega
    have e2 : decide (x.2.rev = v.rev) = decide ((i : Int) = (j : Int)) := by rw [decide_eq_decide]; have := hr.2; simp only at this; omega
    simp only [e1, e2]
theorem lift_snoc {l : List KV} {f : Int} {i : Nat} {x : KV} (hx : l[i]? = some x) : (l.take (i + 1)).filter (keepB l f) = (l.take i).filter (keepB l f) ++ (if keepB l f x = true then [x] else []) := by
  rw [List.take_add_one, hx, List.filter_append]
  congr 1
  simp [List.filter_cons]
theorem RAsc.filter {l : List KV} (h : RAsc l) (p : KV → Bool) : RAsc (l.filter p) := List.Pairwise.filter p h
theorem RAsc.snoc {l : List KV} (h : RAsc l) (x : KV) (hx : ∀ y ∈ l, y.2.rev < x.2.rev) : RAsc (l ++ [x]) :=
  List.pairwise_append.2 ⟨h, List.pairwise_singleton _ _, fun a ha b hb => by rw [List.mem_singleton.1 hb]; exact hx a ha⟩
/-- The list tells the store. -/
structure Tells (s : St) (l : List KV) : Prop where
  asc : RAsc l
  vers : ∀ k, s.vers k = versOf l k
theorem Tells.lay {s : St} {l : List KV} (h : Tells s l) (hb : ∀ k, ∀ v ∈ s.vers k, v.rev ≤ s.rev) (key val : ByteArray) (gone : Bool) : Tells (s.lay key val gone) (l ++ [(key, ⟨s.rev + 1, val, gone⟩)]) := by
  refine ⟨h.asc.snoc _ fun y hy => ?_, fun k => ?_⟩
  · have := hb y.1 y.2 (by rw [h.vers]; exact mem_versOf.2 hy)
    show y.2.rev < s.rev + 1
    omega
  · rw [versOf_app, versOf_one]
    show (if k = key then s.vers key ++ [⟨s.rev + 1, val, gone⟩] else s.vers k) = _
    by_cases e : k = key
    · rw [if_pos e, if_pos e, h.vers, e]
    · rw [if_neg e, if_neg e, h.vers, List.append_nil]
theorem Tells.raise {s : St} {l : List KV} (h : Tells s l) (f : Nat) : Tells (s.raise f) (liftL l f) := by
  refine ⟨h.asc.filter _, fun k => ?_⟩
  show (s.vers k).drop (dropN (s.vers k) f) = _
  rw [h.vers, versOf_lift h.asc]
theorem Tells.empty_of {s : St} (h : ∀ k, s.vers k = []) : Tells s [] := ⟨List.Pairwise.nil, fun k => by rw [h]; rfl⟩
theorem Tells.len {s : St} {l : List KV} (h : Tells s l) {n : Nat} (hb : ∀ k, ∀ v ∈ s.vers k, 1 ≤ v.rev ∧ v.rev ≤ n) : l.length ≤ n := by
  have hm : ∀ y ∈ l, 1 ≤ y.2.rev ∧ y.2.rev ≤ n := fun y hy => hb y.1 y.2 (by rw [h.vers]; exact mem_versOf.2 hy)
  have ha := h.asc
  clear hb h
  have key : ∀ (l : List KV) (b : Nat), RAsc l → (∀ y ∈ l, b + 1 ≤ y.2.rev ∧ y.2.rev ≤ n) → b ≤ n → l.length ≤ n - b := by
    intro l
    induction l with
    | nil => intro b _ _ _; simp
    | cons x l ih =>
      intro b ha hm hb
      obtain ⟨h1, h2⟩ := List.pairwise_cons.1 ha
      have hx := hm x (by simp)
      have := ih x.2.rev h2 (fun y hy => ⟨h1 y hy, (hm y (by simp [hy])).2⟩) hx.2
      rw [List.length_cons]; omega
  have := key l 0 ha (fun y hy => by have := hm y hy; omega) (Nat.zero_le _)
  omega
/-- The next key: the least of those that are greater than one (or that one, where 'with' is set). -/
def candK (k : ByteArray) (w : Bool) (y : ByteArray) : Prop := k.data.toList < y.data.toList ∨ (w = true ∧ y = k)
structure NextIs (l : List KV) (k : ByteArray) (w : Bool) (best : ByteArray) (found : Bool) : Prop where
  none : found = false → best = ⟨#[]⟩ ∧ ∀ x ∈ l, ¬ candK k w x.1
  some : found = true → (∃ x ∈ l, x.1 = best) ∧ candK k w best ∧ ∀ x ∈ l, candK k w x.1 → best.data.toList ≤ x.1.data.toList
theorem NextIs.nil (k : ByteArray) (w : Bool) : NextIs [] k w ⟨#[]⟩ false := ⟨fun _ => ⟨rfl, fun x hx => by cases hx⟩, fun h => by cases h⟩
theorem NextIs.skip {l : List KV} {k : ByteArray} {w : Bool} {b : ByteArray} {f : Bool} (h : NextIs l k w b f) (x : KV) (hx : ¬ candK k w x.1 ∨ (f = true ∧ ¬ x.1.data.toList < b.data.toList)) : NextIs (l ++ [x]) k w b f := by
  refine ⟨fun hf => ⟨(h.none hf).1, fun y hy => ?_⟩, fun hf => ?_⟩
  · rcases List.mem_append.1 hy with hy | hy
    · exact (h.none hf).2 y hy
    · rw [List.mem_singleton.1 hy]
      rcases hx with hx | ⟨hx, _⟩
      · exact hx
      · rw [hf] at hx; cases hx
  · obtain ⟨⟨z, hz, hzb⟩, h2, h3⟩ := h.some hf
    refine ⟨⟨z, List.mem_append_left _ hz, hzb⟩, h2, fun y hy hc => ?_⟩
    rcases List.mem_append.1 hy with hy | hy
    · exact h3 y hy hc
    · rw [List.mem_singleton.1 hy] at hc ⊢
      rcases hx with hx | ⟨_, hx⟩
      · exact absurd hc hx
      · exact hx
theorem NextIs.take {l : List KV} {k : ByteArray} {w : Bool} {b : ByteArray} {f : Bool} (h : NextIs l k w b f) (x : KV) (hc : candK k w x.1) (hx : f = false ∨ x.1.data.toList < b.data.toList) : NextIs (l ++ [x]) k w x.1 true := by
  refine ⟨(fun hf => by cases hf), fun _ => ⟨⟨x, by simp, rfl⟩, hc, fun y hy hcy => ?_⟩⟩
  rcases List.mem_append.1 hy with hy | hy
  · cases f
    · exact absurd hcy ((h.none rfl).2 y hy)
    · rcases hx with hx | hx
      · cases hx
      · exact List.le_trans (List.le_of_lt hx) ((h.some rfl).2.2 y hy hcy)
  · rw [List.mem_singleton.1 hy]; exact List.le_refl _
/-- All keys, in their order. -/
theorem sorted_keys : ∀ l : List KV, ∃ ks : List ByteArray, (ks.Pairwise fun a b => a.data.toList < b.data.toList) ∧ ∀ k, k ∈ ks ↔ ∃ x ∈ l, x.1 = k
  | [] => ⟨[], List.Pairwise.nil, fun k => by simp⟩
  | x :: l => by
    obtain ⟨ks, h1, h2⟩ := sorted_keys l
    have ins : ∀ (ks : List ByteArray) (y : ByteArray), (ks.Pairwise fun a b => a.data.toList < b.data.toList) → ∃ ks' : List ByteArray, (ks'.Pairwise fun a b => a.data.toList < b.data.toList) ∧ ∀ k, k ∈ ks' ↔ k = y ∨ k ∈ ks := by
      intro ks y
      induction ks with
      | nil => intro _; exact ⟨[y], List.pairwise_singleton _ _, fun k => by simp⟩
      | cons a tl ih =>
        intro hp
        obtain ⟨g1, g2⟩ := List.pairwise_cons.1 hp
        by_cases hya : y.data.toList < a.data.toList
        · refine ⟨y :: a :: tl, List.pairwise_cons.2 ⟨fun b hb => ?_, hp⟩, fun k => by simp⟩
          rcases List.mem_cons.1 hb with rfl | hb
          · exact hya
          · exact List.lt_trans hya (g1 b hb)
        · by_cases hay : a.data.toList < y.data.toList
          · obtain ⟨ks', k1, k2⟩ := ih g2
            refine ⟨a :: ks', List.pairwise_cons.2 ⟨fun b hb => ?_, k1⟩, fun k => ?_⟩
            · rcases (k2 b).1 hb with rfl | hb
              · exact hay
              · exact g1 b hb
            · rw [List.mem_cons, k2, List.mem_cons]
              constructor
              · rintro (h | h | h)
                · exact .inr (.inl h)
                · exact .inl h
                · exact .inr (.inr h)
              · rintro (h | h | h)
                · exact .inr (.inl h)
                · exact .inl h
                · exact .inr (.inr h)
          · have e : y = a := bytes_ext (List.le_antisymm hay hya)
            subst e
            exact ⟨y :: tl, hp, fun k => by simp⟩
    obtain ⟨ks', g1, g2⟩ := ins ks x.1 h1
    refine ⟨ks', g1, fun k => ?_⟩
    rw [g2, h2]
    constructor
    · rintro (rfl | ⟨z, hz, hzk⟩)
      · exact ⟨x, by simp, rfl⟩
      · exact ⟨z, by simp [hz], hzk⟩
    · rintro ⟨z, hz, hzk⟩
      rcases List.mem_cons.1 hz with rfl | hz
      · exact .inl hzk.symm
      · exact .inr ⟨z, hz, hzk⟩
theorem Tells.has {s : St} {l : List KV} (h : Tells s l) (k : ByteArray) : s.vers k ≠ [] ↔ ∃ x ∈ l, x.1 = k := by
  rw [h.vers]
  constructor
  · intro hne
    obtain ⟨v, hv⟩ := List.exists_mem_of_ne_nil _ hne
    exact ⟨(k, v), mem_versOf.1 hv, rfl⟩
  · rintro ⟨x, hx, rfl⟩ e
    have := mem_versOf.2 (show (x.1, x.2) ∈ l from hx)
    rw [e] at this; cases this
theorem Tells.keys {s : St} {l : List KV} (h : Tells s l) : ∃ ks, KeysIn s ks := by
  obtain ⟨ks, h1, h2⟩ := sorted_keys l
  exact ⟨ks, h1, fun k => by rw [h2, h.has]⟩
/-- The next key in the order of all keys. -/
theorem next_rest {l : List KV} {done rest : List ByteArray} {k b : ByteArray} {f w : Bool} (hs : (done ++ rest).Pairwise fun a b => a.data.toList < b.data.toList) (hlow : ∀ y ∈ done, ¬ candK k w y) (hup : ∀ y ∈ rest, candK k w y) (hm : ∀ x ∈ l, candK k w x.1 → x.1 ∈ done ++ rest) (hk : ∀ y ∈ rest, ∃ x ∈ l, x.1 = y) (h : NextIs l k w b f) :
    (f = false ∧ rest = []) ∨ (f = true ∧ ∃ rest', rest = b :: rest') := by
  cases f
  · refine .inl ⟨rfl, ?_⟩
    cases rest with
    | nil => rfl
    | cons y ys =>
      exfalso
      obtain ⟨x, hx, e⟩ := hk y (by simp)
      exact (h.none rfl).2 x hx (by rw [e]; exact hup y (by simp))
  · refine .inr ⟨rfl, ?_⟩
    obtain ⟨⟨x, hx, e⟩, h2, h3⟩ := h.some rfl
    have hb := hm x hx (by rw [e]; exact h2)
    rw [e] at hb
    rcases List.mem_append.1 hb with hb | hb
    · exact absurd h2 (hlow b hb)
    · cases rest with
      | nil => cases hb
      | cons y ys =>
        rcases List.mem_cons.1 hb with rfl | hb'
        · exact ⟨ys, rfl⟩
        · exfalso
          obtain ⟨z, hz, ez⟩ := hk y (by simp)
          have h4 := h3 z hz (by rw [ez]; exact hup y (by simp))
          rw [ez] at h4
          have h5 := (List.pairwise_cons.1 (List.pairwise_append.1 hs).2.1).1 b hb'
          exact absurd h5 h4
open Classical in
theorem sum_vers (l : List KV) : ∀ ks : List ByteArray, ks.Nodup → (∀ x ∈ l, x.1 ∈ ks) → (ks.map fun k => (versOf l k).length).sum = l.length := by
  intro ks hn
  induction l with
  | nil =>
    intro _
    have : ∀ ks : List ByteArray, (ks.map fun k => (versOf [] k).length).sum = 0 := fun ks => by
      induction ks with
      | nil => rfl
      | cons k ks ih => rw [List.map_cons, List.sum_cons, ih]; rfl
    rw [this]; rfl
  | cons x l ih =>
    intro hm
    have h1 := ih fun y hy => hm y (by simp [hy])
    have hx := hm x (by simp)
    clear ih hm
    have key : ∀ ks : List ByteArray, ks.Nodup → (ks.map fun k => (versOf (x :: l) k).length).sum = (ks.map fun k => (versOf l k).length).sum + (if x.1 ∈ ks then 1 else 0) := by
      intro ks hn
      induction ks with
      | nil => simp
      | cons a tl ih =>
        obtain ⟨g1, g2⟩ := List.nodup_cons.1 hn
        rw [List.map_cons, List.sum_cons, List.map_cons, List.sum_cons, ih g2, versOf_cons]
        by_cases e : a = x.1
        · subst e
          rw [if_pos rfl, if_neg g1, if_pos (by simp), List.length_cons]; omega
        · rw [if_neg e]
          have e2 : (x.1 ∈ a :: tl) ↔ x.1 ∈ tl := by
            rw [List.mem_cons]
            constructor
            · rintro (h | h)
              · exact absurd h.symm e
              · exact h
            · exact .inr
          simp only [e2]
          omega
    rw [key ks hn, if_pos hx, h1, List.length_cons]
theorem Tells.tot {s : St} {l : List KV} (h : Tells s l) {ks : List ByteArray} (hk : KeysIn s ks) : totN s ks = l.length := by
  have hn : ks.Nodup := keys_nodup (s := s) hk.1
  have e : totN s ks = (ks.map fun k => (versOf l k).length).sum := by
    unfold totN
    congr 1
    exact List.map_congr_left fun k _ => by rw [h.vers]
  rw [e]
  exact sum_vers l ks hn fun x hx => (hk.2 _).2 ((h.has _).2 ⟨x, hx, rfl⟩)
end Go.Proofs.Ytcbbnmodjnnbeaa
