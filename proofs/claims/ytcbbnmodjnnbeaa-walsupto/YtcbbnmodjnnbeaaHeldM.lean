/- A region that draws, whose LAST operation may turn what the others read: the condition S need not hold behind that one. -/
import Derived.OrdersHeld
import Derived.Deep.RegionHeld
set_option linter.unusedSimpArgs false
set_option linter.unusedVariables false
namespace Go
section
variable {P : Program} {ops : Array Oper} {Q : Exit → Act → World → Prop} {md : Region.Mode} {S : World → Prop} {L : Nat}
/-- Whatever comes up from here on; S holds behind each operation but number L. -/
def wpUntil (P : Program) (md : Region.Mode) (ops : Array Oper) (Q : Exit → Act → World → Prop) (S : World → Prop) (L : Nat) : Nat → Array Bool → Act → World → Prop
  | 0, done, a, w => Region.ready md ops done = [] ∧ Q .normal a w
  | n + 1, done, a, w => (Region.ready md ops done = [] → Q .normal a w) ∧ ∀ i ∈ Region.ready md ops done, wpOp P ops Q i (fun a' w' => (i ≠ L → S w') ∧ wpUntil P md ops Q S L n (done.setIfInBounds i true) a' w') a w
theorem wpUntil.any : ∀ (n : Nat) (done : Array Bool) (a : Act) (w : World), wpUntil P md ops Q S L n done a w → wpAny P md ops Q n done a w
  | 0, _, _, _, h => h
  | n + 1, _, _, _, h => ⟨h.1, fun i hi => wpOp_mono (fun _ _ x => wpUntil.any n _ _ _ x.2) (h.2 i hi)⟩
theorem wpUntil.step {i : Nat} {oi : Oper} {v : Value} (hi : ops[i]? = some oi) (hiL : i ≠ L) (hsel : ∀ (j : Nat) (o : Oper) cs b, ops[j]? = some o → o.op ≠ .select cs b)
    (hQ : ∀ c a w, Q (.panic c) (a.put oi.dst v) w → Q (.panic c) a w) (hL : ∀ o, ops[L]? = some o → ∃ e ∈ o.after, Region.binds md e = true ∧ e.on = i) (n : Nat) :
    ∀ (done : Array Bool) (a : Act) (w : World),
      (∀ j oj, ops[j]? = some oj → j ≠ i → done.getD j true = false → (∀ e ∈ oj.after, Region.binds md e = true → e.on ≠ i) → oi.apart ops oj = true) →
      i ∈ Region.ready md ops done → YieldsIf P ops S oi v a → S w →
      wpUntil P md ops Q S L n (done.setIfInBounds i true) (a.put oi.dst v) w → wpUntil P md ops Q S L (n + 1) done a w := by
  induction n with
  | zero =>
    intro done a w _ hr hy hS H
    refine ⟨fun h => absurd hr (by rw [h]; exact List.not_mem_nil), fun j hj => ?_⟩
    have hji : j = i := Classical.byContradiction fun hne => by
      have := ready_mono hj hne
      rw [H.1] at this
      exact absurd this List.not_mem_nil
    rw [hji]
    exact hy.wpOp hi hS ⟨fun _ => hS, H⟩
  | succ n ih =>
    intro done a w hfree hr hy hS H
    refine ⟨fun h => absurd hr (by rw [h]; exact List.not_mem_nil), fun j hj => ?_⟩
    by_cases hji : j = i
    · rw [hji]; exact hy.wpOp hi hS ⟨fun _ => hS, H⟩
    · have hun := (mem_ready.1 hr).1
      obtain ⟨hjun, oj, hoj, hall⟩ := mem_ready.1 hj
      have hnot : ∀ e ∈ oj.after, Region.binds md e = true → e.on ≠ i := by
        intro e he hb heq
        have h1 := hall e he hb
        rw [heq] at h1
        by_cases hlt : i < done.size
        · simp [hlt] at h1 hun; rw [hun] at h1; cases h1
        · simp [Array.getElem?_eq_none (Nat.le_of_not_lt hlt)] at h1
      have hjL : j ≠ L := by
        rintro rfl
        obtain ⟨e, he, hb, hei⟩ := hL oj hoj
        exact hnot e he hb hei
      have h1 := wpOp_putIf hoj (hfree j oj hoj hji hjun hnot) (fun cs b => hsel i oi cs b hi) (fun cs b => hsel j oj cs b hoj) hQ hy (H.2 j (ready_mono hj hji))
      refine wpOp_mono (fun a' w' x => ⟨fun _ => x.2.1 hjL, ih (done.setIfInBounds j true) a' w' (fun k ok hk hki hu hno => hfree k ok hk hki ?_ hno) (ready_mono hr (fun e => hji e.symm)) x.1 (x.2.1 hjL) ?_⟩) h1
      · by_cases hjk : j = k
        · rw [← hjk]; exact hjun
        · rw [getD_set_ne true hjk] at hu; exact hu
      · rw [Array.setIfInBounds_comm _ _ hji]; exact x.2.2
theorem wpUntil.take {i : Nat} {oi : Oper} {v : Value} {n : Nat} {done : Array Bool} {a : Act} {w : World} (hi : ops[i]? = some oi) (hiL : i ≠ L)
    (hs : Region.noSelect ops = true) (hf : Region.free md ops done i = true) (hr : (Region.ready md ops done).contains i = true)
    (hL : (match ops[L]? with | some o => o.after.any fun e => Region.binds md e && e.on == i | none => true) = true)
    (hQ : ∀ c a w, Q (.panic c) (a.put oi.dst v) w → Q (.panic c) a w) (hy : YieldsIf P ops S oi v a) (hS : S w)
    (h : wpUntil P md ops Q S L n (done.setIfInBounds i true) (a.put oi.dst v) w) : wpUntil P md ops Q S L (n + 1) done a w := by
  refine wpUntil.step hi hiL (Region.noSelect_spec hs) hQ (fun o ho => ?_) n done a w (Region.free_spec hi hf) (by simpa using hr) hy hS h
  rw [ho] at hL
  obtain ⟨e, he, hb⟩ := Array.any_eq_true'.1 hL
  simp only [Bool.and_eq_true, beq_iff_eq] at hb
  exact ⟨e, he, hb.1, hb.2⟩
/-- The one that alone may come up. -/
theorem wpUntil.only {i : Nat} {o : Oper} {n : Nat} {done : Array Bool} {a : Act} {w : World} (ho : ops[i]? = some o) (hr : Region.ready md ops done = [i]) (hw : Region.wanted o (yielded ops a.tmps) = true)
    (h : o.wp P a w (fun a' w' => (i ≠ L → S w') ∧ wpUntil P md ops Q S L n (done.setIfInBounds i true) a' w') Q) : wpUntil P md ops Q S L (n + 1) done a w := by
  refine ⟨fun h0 => (by rw [hr] at h0; cases h0), fun j hj => ?_⟩
  rw [hr] at hj
  have := List.mem_singleton.1 hj
  subst this
  unfold wpOp
  rw [ho]
  simp only [hw, if_true]
  exact .inl h
theorem wpUntil.done {d : Array Bool} {a : Act} {w : World} (hr : Region.ready md ops d = []) (h : Q .normal a w) : ∀ n, wpUntil P md ops Q S L n d a w
  | 0 => ⟨hr, h⟩
  | n + 1 => ⟨fun _ => h, fun i hi => by rw [hr] at hi; exact absurd hi List.not_mem_nil⟩
theorem wp_region_until (S : World → Prop) (L : Nat) {id : Nat} {a : Act} {w : World} (hm : P.follows .mixedOrders = true)
    (h : wpUntil P .any ops Q S L ops.size (Array.replicate ops.size false) a w.drew) : (Code.region id ops true).wp P Q a w := wp_region_any hm (wpUntil.any _ _ _ _ h)
end
end Go
/- HeldK's step where the last operation comes behind the one that is taken by way of others (C: all that come behind it). -/
set_option linter.unusedSimpArgs false
set_option linter.unusedVariables false
namespace Go
section
variable {P : Program} {ops : Array Oper} {Q : Exit → Act → World → Prop} {md : Region.Mode} {S : World → Prop} {L : Nat}
theorem getD_un {d : Array Bool} {x : Nat} (h : d.getD x true = false) : d.getD x false = false := by
  by_cases hlt : x < d.size
  · simp [hlt] at h ⊢; exact h
  · simp [Array.getElem?_eq_none (Nat.le_of_not_lt hlt)] at h
theorem wpUntil.stepC {i : Nat} {oi : Oper} {v : Value} (C : List Nat) (hi : ops[i]? = some oi) (hiC : i ∉ C) (hLC : L ∈ C) (hsel : ∀ (j : Nat) (o : Oper) cs b, ops[j]? = some o → o.op ≠ .select cs b)
    (hQ : ∀ c a w, Q (.panic c) (a.put oi.dst v) w → Q (.panic c) a w) (hC : ∀ m ∈ C, ∀ o, ops[m]? = some o → ∃ e ∈ o.after, Region.binds md e = true ∧ (e.on = i ∨ e.on ∈ C)) (n : Nat) :
    ∀ (done : Array Bool) (a : Act) (w : World),
      (∀ j oj, ops[j]? = some oj → j ≠ i → done.getD j true = false → (∀ e ∈ oj.after, Region.binds md e = true → e.on ≠ i) → oi.apart ops oj = true) →
      (∀ m ∈ C, done.getD m true = false) →
      i ∈ Region.ready md ops done → YieldsIf P ops S oi v a → S w →
      wpUntil P md ops Q S L n (done.setIfInBounds i true) (a.put oi.dst v) w → wpUntil P md ops Q S L (n + 1) done a w := by
  have hiL : i ≠ L := fun e => hiC (e ▸ hLC)
  induction n with
  | zero =>
    intro done a w _ _ hr hy hS H
    refine ⟨fun h => absurd hr (by rw [h]; exact List.not_mem_nil), fun j hj => ?_⟩
    have hji : j = i := Classical.byContradiction fun hne => by
      have := ready_mono hj hne
      rw [H.1] at this
      exact absurd this List.not_mem_nil
    rw [hji]
    exact hy.wpOp hi hS ⟨fun _ => hS, H⟩
  | succ n ih =>
    intro done a w hfree hU hr hy hS H
    refine ⟨fun h => absurd hr (by rw [h]; exact List.not_mem_nil), fun j hj => ?_⟩
    by_cases hji : j = i
    · rw [hji]; exact hy.wpOp hi hS ⟨fun _ => hS, H⟩
    · have hun := (mem_ready.1 hr).1
      obtain ⟨hjun, oj, hoj, hall⟩ := mem_ready.1 hj
      have hnot : ∀ e ∈ oj.after, Region.binds md e = true → e.on ≠ i := by
        intro e he hb heq
        have h1 := hall e he hb
        rw [heq, getD_un hun] at h1
        cases h1
      have hjC : j ∉ C := by
        intro hjC
        obtain ⟨e, he, hb, hx⟩ := hC j hjC oj hoj
        rcases hx with hx | hx
        · exact hnot e he hb hx
        · have h1 := hall e he hb
          rw [getD_un (hU _ hx)] at h1
          cases h1
      have hjL : j ≠ L := fun e => hjC (e ▸ hLC)
      have h1 := wpOp_putIf hoj (hfree j oj hoj hji hjun hnot) (fun cs b => hsel i oi cs b hi) (fun cs b => hsel j oj cs b hoj) hQ hy (H.2 j (ready_mono hj hji))
      refine wpOp_mono (fun a' w' x => ⟨fun _ => x.2.1 hjL, ih (done.setIfInBounds j true) a' w' (fun k ok hk hki hu hno => hfree k ok hk hki ?_ hno) (fun m hm => ?_) (ready_mono hr (fun e => hji e.symm)) x.1 (x.2.1 hjL) ?_⟩) h1
      · by_cases hjk : j = k
        · rw [← hjk]; exact hjun
        · rw [getD_set_ne true hjk] at hu; exact hu
      · rw [getD_set_ne true (fun e : j = m => hjC (by rw [e]; exact hm))]; exact hU m hm
      · rw [Array.setIfInBounds_comm _ _ hji]; exact x.2.2
/-- C is shut upward from i on, and none of it is done. -/
def Region.laterOk (md : Region.Mode) (ops : Array Oper) (done : Array Bool) (i L : Nat) (C : List Nat) : Bool :=
  C.contains L && !C.contains i && C.all fun m => !(done.getD m true) && match ops[m]? with | some o => o.after.any (fun e => Region.binds md e && (e.on == i || C.contains e.on)) | none => true
theorem wpUntil.takeC {i : Nat} {oi : Oper} {v : Value} {n : Nat} {done : Array Bool} {a : Act} {w : World} (C : List Nat) (hi : ops[i]? = some oi)
    (hs : Region.noSelect ops = true) (hf : Region.free md ops done i = true) (hr : (Region.ready md ops done).contains i = true)
    (hC : Region.laterOk md ops done i L C = true)
    (hQ : ∀ c a w, Q (.panic c) (a.put oi.dst v) w → Q (.panic c) a w) (hy : YieldsIf P ops S oi v a) (hS : S w)
    (h : wpUntil P md ops Q S L n (done.setIfInBounds i true) (a.put oi.dst v) w) : wpUntil P md ops Q S L (n + 1) done a w := by
  simp only [Region.laterOk, Bool.and_eq_true, List.contains_iff_mem, List.all_eq_true, Bool.not_eq_true', Bool.eq_false_iff, ne_eq] at hC
  obtain ⟨⟨h1, h2⟩, h3⟩ := hC
  refine wpUntil.stepC C hi h2 h1 (Region.noSelect_spec hs) hQ (fun m hm o ho => ?_) n done a w (Region.free_spec hi hf) (fun m hm => by simpa using (h3 m hm).1) (by simpa using hr) hy hS h
  have h4 := (h3 m hm).2
  rw [ho] at h4
  obtain ⟨e, he, hb⟩ := Array.any_eq_true'.1 h4
  simp only [Bool.and_eq_true, Bool.or_eq_true, beq_iff_eq, List.contains_iff_mem] at hb
  exact ⟨e, he, hb.1, hb.2⟩
end
end Go
/- A region that draws; behind the operations in Ls what the others read need not hold (a call that turns much, and what comes behind it). -/
set_option linter.unusedSimpArgs false
set_option linter.unusedVariables false
namespace Go
section
variable {P : Program} {ops : Array Oper} {Q : Exit → Act → World → Prop} {md : Region.Mode} {S : World → Prop} {Ls : List Nat}
def wpLate (P : Program) (md : Region.Mode) (ops : Array Oper) (Q : Exit → Act → World → Prop) (S : World → Prop) (Ls : List Nat) : Nat → Array Bool → Act → World → Prop
  | 0, done, a, w => Region.ready md ops done = [] ∧ Q .normal a w
  | n + 1, done, a, w => (Region.ready md ops done = [] → Q .normal a w) ∧ ∀ i ∈ Region.ready md ops done, wpOp P ops Q i (fun a' w' => (i ∉ Ls → S w') ∧ wpLate P md ops Q S Ls n (done.setIfInBounds i true) a' w') a w
theorem wpLate.any : ∀ (n : Nat) (done : Array Bool) (a : Act) (w : World), wpLate P md ops Q S Ls n done a w → wpAny P md ops Q n done a w
  | 0, _, _, _, h => h
  | n + 1, _, _, _, h => ⟨h.1, fun i hi => wpOp_mono (fun _ _ x => wpLate.any n _ _ _ x.2) (h.2 i hi)⟩
theorem wpLate.only {i : Nat} {o : Oper} {n : Nat} {done : Array Bool} {a : Act} {w : World} (ho : ops[i]? = some o) (hr : Region.ready md ops done = [i]) (hw : Region.wanted o (yielded ops a.tmps) = true)
    (h : o.wp P a w (fun a' w' => (i ∉ Ls → S w') ∧ wpLate P md ops Q S Ls n (done.setIfInBounds i true) a' w') Q) : wpLate P md ops Q S Ls (n + 1) done a w := by
  refine ⟨fun h0 => (by rw [hr] at h0; cases h0), fun j hj => ?_⟩
  rw [hr] at hj
  have := List.mem_singleton.1 hj
  subst this
  unfold wpOp
  rw [ho]
  simp only [hw, if_true]
  exact .inl h
theorem wpLate.done {d : Array Bool} {a : Act} {w : World} (hr : Region.ready md ops d = []) (h : Q .normal a w) : ∀ n, wpLate P md ops Q S Ls n d a w
  | 0 => ⟨hr, h⟩
  | n + 1 => ⟨fun _ => h, fun i hi => by rw [hr] at hi; exact absurd hi List.not_mem_nil⟩
theorem wp_region_late (S : World → Prop) (Ls : List Nat) {id : Nat} {a : Act} {w : World} (hm : P.follows .mixedOrders = true)
    (h : wpLate P .any ops Q S Ls ops.size (Array.replicate ops.size false) a w.drew) : (Code.region id ops true).wp P Q a w := wp_region_any hm (wpLate.any _ _ _ _ h)
theorem wpLate.stepC {i : Nat} {oi : Oper} {v : Value} (C : List Nat) (hi : ops[i]? = some oi) (hiC : i ∉ C) (hLC : ∀ l ∈ Ls, l ∈ C) (hsel : ∀ (j : Nat) (o : Oper) cs b, ops[j]? = some o → o.op ≠ .select cs b)
    (hQ : ∀ c a w, Q (.panic c) (a.put oi.dst v) w → Q (.panic c) a w) (hC : ∀ m ∈ C, ∀ o, ops[m]? = some o → ∃ e ∈ o.after, Region.binds md e = true ∧ (e.on = i ∨ e.on ∈ C)) (n : Nat) :
    ∀ (done : Array Bool) (a : Act) (w : World),
      (∀ j oj, ops[j]? = some oj → j ≠ i → done.getD j true = false → (∀ e ∈ oj.after, Region.binds md e = true → e.on ≠ i) → oi.apart ops oj = true) →
      (∀ m ∈ C, done.getD m true = false) →
      i ∈ Region.ready md ops done → YieldsIf P ops S oi v a → S w →
      wpLate P md ops Q S Ls n (done.setIfInBounds i true) (a.put oi.dst v) w → wpLate P md ops Q S Ls (n + 1) done a w := by
  have hiL : i ∉ Ls := fun e => hiC (hLC i e)
  induction n with
  | zero =>
    intro done a w _ _ hr hy hS H
    refine ⟨fun h => absurd hr (by rw [h]; exact List.not_mem_nil), fun j hj => ?_⟩
    have hji : j = i := Classical.byContradiction fun hne => by
      have := ready_mono hj hne
      rw [H.1] at this
      exact absurd this List.not_mem_nil
    rw [hji]
    exact hy.wpOp hi hS ⟨fun _ => hS, H⟩
  | succ n ih =>
    intro done a w hfree hU hr hy hS H
    refine ⟨fun h => absurd hr (by rw [h]; exact List.not_mem_nil), fun j hj => ?_⟩
    by_cases hji : j = i
    · rw [hji]; exact hy.wpOp hi hS ⟨fun _ => hS, H⟩
    · have hun := (mem_ready.1 hr).1
      obtain ⟨hjun, oj, hoj, hall⟩ := mem_ready.1 hj
      have hnot : ∀ e ∈ oj.after, Region.binds md e = true → e.on ≠ i := by
        intro e he hb heq
        have h1 := hall e he hb
        rw [heq, getD_un hun] at h1
        cases h1
      have hjC : j ∉ C := by
        intro hjC
        obtain ⟨e, he, hb, hx⟩ := hC j hjC oj hoj
        rcases hx with hx | hx
        · exact hnot e he hb hx
        · have h1 := hall e he hb
          rw [getD_un (hU _ hx)] at h1
          cases h1
      have hjL : j ∉ Ls := fun e => hjC (hLC j e)
      have h1 := wpOp_putIf hoj (hfree j oj hoj hji hjun hnot) (fun cs b => hsel i oi cs b hi) (fun cs b => hsel j oj cs b hoj) hQ hy (H.2 j (ready_mono hj hji))
      refine wpOp_mono (fun a' w' x => ⟨fun _ => x.2.1 hjL, ih (done.setIfInBounds j true) a' w' (fun k ok hk hki hu hno => hfree k ok hk hki ?_ hno) (fun m hm => ?_) (ready_mono hr (fun e => hji e.symm)) x.1 (x.2.1 hjL) ?_⟩) h1
      · by_cases hjk : j = k
        · rw [← hjk]; exact hjun
        · rw [getD_set_ne true hjk] at hu; exact hu
      · rw [getD_set_ne true (fun e : j = m => hjC (by rw [e]; exact hm))]; exact hU m hm
      · rw [Array.setIfInBounds_comm _ _ hji]; exact x.2.2
def Region.lateOk (md : Region.Mode) (ops : Array Oper) (done : Array Bool) (i : Nat) (Ls C : List Nat) : Bool :=
  Ls.all (fun l => C.contains l) && !C.contains i && C.all fun m => !(done.getD m true) && match ops[m]? with | some o => o.after.any (fun e => Region.binds md e && (e.on == i || C.contains e.on)) | none => true
theorem wpLate.takeC {i : Nat} {oi : Oper} {v : Value} {n : Nat} {done : Array Bool} {a : Act} {w : World} (C : List Nat) (hi : ops[i]? = some oi)
    (hs : Region.noSelect ops = true) (hf : Region.free md ops done i = true) (hr : (Region.ready md ops done).contains i = true)
    (hC : Region.lateOk md ops done i Ls C = true)
    (hQ : ∀ c a w, Q (.panic c) (a.put oi.dst v) w → Q (.panic c) a w) (hy : YieldsIf P ops S oi v a) (hS : S w)
    (h : wpLate P md ops Q S Ls n (done.setIfInBounds i true) (a.put oi.dst v) w) : wpLate P md ops Q S Ls (n + 1) done a w := by
  simp only [Region.lateOk, Bool.and_eq_true, List.contains_iff_mem, List.all_eq_true, Bool.not_eq_true', Bool.eq_false_iff, ne_eq] at hC
  obtain ⟨⟨h1, h2⟩, h3⟩ := hC
  refine wpLate.stepC C hi h2 h1 (Region.noSelect_spec hs) hQ (fun m hm o ho => ?_) n done a w (Region.free_spec hi hf) (fun m hm => by simpa using (h3 m hm).1) (by simpa using hr) hy hS h
  have h4 := (h3 m hm).2
  rw [ho] at h4
  obtain ⟨e, he, hb⟩ := Array.any_eq_true'.1 h4
  simp only [Bool.and_eq_true, Bool.or_eq_true, beq_iff_eq, List.contains_iff_mem] at hb
  exact ⟨e, he, hb.1, hb.2⟩
end
end Go
