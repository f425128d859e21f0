/- The law on stores: Do. -/
import Derived.Test.YtcbbnmodjnnbeaaStW3
import Derived.Test.YtcbbnmodjnnbeaaLawC
import Derived.Test.YtcbbnmodjnnbeaaSameCmd
set_option linter.unusedSimpArgs false
set_option linter.unusedVariables false
namespace Go.Proofs.Ytcbbnmodjnnbeaa
open Go.RowKit

def ActOut (w : World) (bp kb n : Nat) (FP FB : Nat → Prop) (e : Ending) (w' : World) : Prop := e = .returned (.bool true) ∧ ∃ FP' FB' : Nat → Prop, PairIn w' bp FP' ∧ BookIn w' kb FB' (n + 4) ∧ (∀ x, FP' x → ¬ FB' x) ∧ (∀ x, FP' x → FP x ∨ w.heap.size ≤ x) ∧ (∀ x, FB' x → FB x ∨ w.heap.size ≤ x) ∧ w.turned w' (fun x => FP x ∨ FB x)
section
variable {w w1 w2 w3 w7 w8 : World} {bp p b p' b' : Nat} {D D' : DataW Value} {q q' : Nat} {vl vl' : Value} {l l' : List KV} {s s' : St} {kb n : Nat} {vR vF : Value} {eR eF : List Ent}
theorem actOut_end (h : PairAt w bp p b D q vl l s) (hB : BookAt w kb vR vF eR eF n) (hPB : ∀ x, footP bp p b D q vl x → ¬ footBk kb vR vF eR eF x) (T : w.turned w7 (footP bp p b D q vl)) (hP7 : PairAt w7 bp p' b' D' q' vl' l' s') (hf : ∀ x, footP bp p' b' D' q' vl' x → footP bp p b D q vl x ∨ w.heap.size ≤ x)
    {v : Value} (hv : ∀ x, v.ownBlock = some x → w.heap.size ≤ x ∧ ¬ footP bp p' b' D' q' vl' x) (hOut : ∃ FB' : Nat → Prop, BookIn w8 kb FB' (n + 4) ∧ (∀ x, FB' x → footBk kb vR vF eR eF x ∨ v.ownBlock = some x ∨ w7.heap.size ≤ x) ∧ w7.turned w8 (fun x => footBk kb vR vF eR eF x ∨ v.ownBlock = some x)) :
    ActOut w bp kb n (footP bp p b D q vl) (footBk kb vR vF eR eF) (.returned (.bool true)) w8 := by
  obtain ⟨FB', hBI, hFB, ht⟩ := hOut
  have i7 := T.size
  have key : ∀ x, footP bp p' b' D' q' vl' x → ¬ (footBk kb vR vF eR eF x ∨ v.ownBlock = some x) := by
    rintro x hx (h1 | h1)
    · rcases hf x hx with h2 | h2
      · exact hPB x h2 h1
      · have := hB.foot_lt h1; omega
    · exact (hv x h1).2 hx
  refine ⟨rfl, _, FB', (hP7.beside ht key).isIn, hBI, fun x hx hy => ?_, hf, fun x hx => ?_, T.mono (fun k _ h => .inl h) |>.trans ht fun k hk h => ?_⟩
  · rcases hFB x hy with h1 | h1 | h1
    · exact key x hx (.inl h1)
    · exact key x hx (.inr h1)
    · have := hP7.foot_lt hx; omega
  · rcases hFB x hx with h1 | h1 | h1
    · exact .inl h1
    · exact .inr (hv x h1).1
    · exact .inr (by omega)
  · rcases h with h1 | h1
    · exact .inr h1
    · have := (hv k h1).1; omega
theorem pair_do (h : PairAt w bp p b D q vl l s) (T1 : w.turned w1 (fun _ => False)) {g : Nat} (hg : w.heap.size ≤ g) (hg1 : g < w1.heap.size) (T2 : w1.turned w2 (footS p b D)) (hst : StoreAt w2 p b D' s') (hfm : ∀ x, footM b D' x → footM b D x ∨ w1.heap.size ≤ x)
    (T3 : w2.turned w3 (footR q vl)) (hrf : RefAt w3 q vl' s' l') (hfr : ∀ x, vl'.ownBlock = some x → vl.ownBlock = some x ∨ w2.heap.size ≤ x) (T7 : w3.turned w7 (fun x => x = g)) (hsv : Sav s') :
    PairAt w7 bp p b D' q vl' l' s' ∧ (∀ x, footP bp p b D' q vl' x → footP bp p b D q vl x ∨ w.heap.size ≤ x) ∧ w.turned w7 (footP bp p b D q vl) := by
  have i1 := T1.size
  have i2 := T2.size
  have i3 := T3.size
  have i7 := T7.size
  have hS : ∀ x, footS p b D' x → footS p b D x ∨ w1.heap.size ≤ x := fun x hx => by
    rcases hx with rfl | hx
    · exact .inl (.inl rfl)
    · rcases hfm x hx with h1 | h1
      · exact .inl (.inr h1)
      · exact .inr h1
  have hR : ∀ x, footR q vl' x → footR q vl x ∨ w2.heap.size ≤ x := fun x hx => by
    rcases hx with rfl | hx
    · exact .inl (.inl rfl)
    · rcases hfr x hx with h1 | h1
      · exact .inl (.inr h1)
      · exact .inr h1
  have T : w.turned w7 (footP bp p b D q vl) := by
    refine (((T1.mono (S' := footP bp p b D q vl) fun k _ h => absurd h id).trans T2 fun k _ h => .inr (.inl h)).trans T3 fun k _ h => .inr (.inr h)).trans T7 fun k hk h => ?_
    omega
  have e1 := h.lt
  refine ⟨⟨?_, ?_, ?_, hsv, fun hx => ?_, fun hx => ?_, fun x hx hy => ?_⟩, fun x hx => ?_, T⟩
  · rw [T7.block bp (by omega) (by omega), T3.block bp (by omega) h.rb, T2.block bp (by omega) h.sb, T1.block bp e1 id]; exact h.blk
  · refine (hst.beside T3 fun x hx hy => ?_).beside T7 fun x hx e => ?_
    · rcases hS x hx with h1 | h1
      · exact h.sr x h1 hy
      · have := h.rf.foot_lt hy; omega
    · rcases hS x hx with h1 | h1
      · have := h.st.foot_lt h1; omega
      · omega
  · refine hrf.beside T7 fun x hx e => ?_
    rcases hR x hx with h1 | h1
    · have := h.rf.foot_lt h1; omega
    · omega
  · rcases hS bp hx with h1 | h1
    · exact h.sb h1
    · omega
  · rcases hR bp hx with h1 | h1
    · exact h.rb h1
    · omega
  · have hx2 := hst.foot_lt hx
    rcases hR x hy with h1 | h1
    · rcases hS x hx with h2 | h2
      · exact h.sr x h2 h1
      · have := h.rf.foot_lt h1; omega
    · omega
  · rcases hx with h1 | h1 | h1
    · exact .inl (.inl h1)
    · rcases hS x h1 with h2 | h2
      · exact .inl (.inr (.inl h2))
      · exact .inr (by omega)
    · rcases hR x h1 with h2 | h2
      · exact .inl (.inr (.inr h2))
      · exact .inr (by omega)
end
theorem ask_cells {w : World} {a : Nat} {k : Int} {cv : Value} {fr to t : ByteArray} {rev most : Int} (h : w.heap[a]? = some (.cells #[.int .i64 k, cv, .string fr, .string to, .int .i64 rev, .int .i64 most, .string t] 61)) :
    w.cell? ⟨a, 0, none⟩ = some (.int .i64 k) ∧ w.cell? ⟨a, 1, none⟩ = some cv ∧ w.cell? ⟨a, 2, none⟩ = some (.string fr) ∧ w.cell? ⟨a, 3, none⟩ = some (.string to) ∧ w.cell? ⟨a, 4, none⟩ = some (.int .i64 rev) ∧ w.cell? ⟨a, 5, none⟩ = some (.int .i64 most) ∧ w.cell? ⟨a, 6, none⟩ = some (.string t) ∧ ∀ o, w.frozen? ⟨a, o, none⟩ = false := by
  refine ⟨?_, ?_, ?_, ?_, ?_, ?_, ?_, fun o => ?_⟩
  all_goals first
    | (simp only [World.cell?, h]; rfl)
    | simp [World.frozen?, h]
abbrev lentL (cs : List Cmd) : List Cmd := cs ++ List.replicate 8 (mkC (-77))
theorem lentL_len (cs : List Cmd) : (lentL cs).length = cs.length + 8 := by simp [lentL]
theorem lent_prefix {w : World} {g : Nat} {cs : List Cmd} (ho : w.ownL 23 7 (.slice (some ⟨g, 0, none⟩) (cs.length + 8) (cs.length + 8)) ((lentL cs).map Cmd.cells)) : w.reads 7 (.slice (some ⟨g, 0, none⟩) cs.length (cs.length + 8)) (cs.map Cmd.cells) := by
  have h := ho.prefix (m := cs.length) (capx := cs.length + 8) (g := g) rfl (by simp)
  rw [← List.map_take, List.take_left'  rfl] at h
  exact h
theorem same_lent (w : World) (g g' : Nat) (cs : List Cmd) (hn : cs.length ≤ 1048576) (h1 : w.ownL 23 7 (.slice (some ⟨g, 0, none⟩) (cs.length + 8) (cs.length + 8)) ((lentL cs).map Cmd.cells)) (h2 : w.ownL 23 7 (.slice (some ⟨g', 0, none⟩) (cs.length + 8) (cs.length + 8)) ((lentL cs).map Cmd.cells)) :
    Calls Try.prog 64 #[.slice (some ⟨g, 0, none⟩) (cs.length + 8) (cs.length + 8), .slice (some ⟨g', 0, none⟩) (cs.length + 8) (cs.length + 8)] w fun e w' => e = .returned (.bool true) ∧ ∃ n, w' = w.drewN n := by
  have h := sameCommands_same (some ⟨g, 0, none⟩) (some ⟨g', 0, none⟩) (cs.length + 8) (cs.length + 8) (lentL cs) w (by rw [lentL_len]; omega)
  rw [lentL_len] at h
  exact h h1.reads h2.reads
structure DoPost (w1 w2 : World) (p b : Nat) (D : DataW Value) (s : St) (cs : List Cmd) (g2 : Nat) : Prop where
  own : w2.ownL 72 3 (.slice (some ⟨g2, 0, none⟩) cs.length cs.length) ((doAll s cs).1.map Res.cells)
  ge : w1.heap.size ≤ g2
  is : ∃ D', ¬ footS p b D' g2 ∧ StoreAt w2 p b D' (doAll s cs).2 ∧ (∀ x, footM b D' x → footM b D x ∨ w1.heap.size ≤ x)
  turned : w1.turned w2 (footS p b D)
theorem storeDoAt (w1 : World) (p b : Nat) (D : DataW Value) (s : St) (h : StoreAt w1 p b D s) (g : Nat) (cs : List Cmd) (ho : w1.ownL 23 7 (.slice (some ⟨g, 0, none⟩) (cs.length + 8) (cs.length + 8)) ((lentL cs).map Cmd.cells)) (hg : ¬ footS p b D g) (hc : cs.length ≤ 1048576) (hall : ∀ c ∈ cs, c.may = true) (W : World) (hW : Below w1.heap.size w1 W) :
    Calls Try.prog 31 #[.pointer (some ⟨p, 0, none⟩), .slice (some ⟨g, 0, none⟩) cs.length (cs.length + 8)] W fun e w' => ∃ g2, e = .returned (.tuple #[.slice (some ⟨g2, 0, none⟩) cs.length cs.length, .int .i64 0]) ∧ DoPost w1 w' p b D s cs g2 := by
  have hi := hW.size
  have hg' : ∀ k, (Value.slice (some ⟨g, 0, none⟩) cs.length (cs.length + 8)).ownBlock = some k → ¬ footS p b D k := fun k hk => by
    have e : g = k := by simpa [Value.ownBlock] using hk
    exact e ▸ hg
  refine (storeDoYes W p b D s (h.grown hW) (some ⟨g, 0, none⟩) (cs.length + 8) cs ((lent_prefix ho).keep fun k hk => hW.block k (reads_lt (lent_prefix ho) hk)) hg' (by omega) hall).mono ?_
  rintro e w2 ⟨g2, D2, rfl, h1, h2, h3, h4, h5, h6⟩
  exact ⟨g2, rfl, h1, by omega, ⟨D2, h3, h4, fun x hx => (h5 x hx).imp id fun h => by omega⟩, (World.turned.of_below hW _).trans h6 fun k _ h => h⟩
theorem RInvD.from_ {W w3 w2 : World} {q : Nat} {vl : Value} {s' : St} {rs : List Res} {v : Value} (h : RInvD W w3 q vl s' rs v) (hW : Below w2.heap.size w2 W) : RInvD w2 w3 q vl s' rs v := by
  obtain ⟨⟨vl2, l2, h1, h2, h3⟩, h4, h5⟩ := h
  have hi := hW.size
  exact ⟨⟨vl2, l2, h1, fun x hx => (h2 x hx).imp id fun h => by omega, (World.turned.of_below hW _).trans h3 fun k _ h => h⟩, h4, fun x hx => by have := h5 x hx; omega⟩
theorem refDoAt (w2 : World) (q : Nat) (vl : Value) (s : St) (l : List KV) (h : RefAt w2 q vl s l) (ac : Option Addr) (capc : Nat) (cs : List Cmd) (hr : cs ≠ [] → w2.reads 7 (.slice ac cs.length capc) (cs.map Cmd.cells)) (hoff : cs ≠ [] → ∀ k, (Value.slice ac cs.length capc).ownBlock = some k → ¬ footR q vl k) (hc : cs.length ≤ 1048576) (hall : ∀ c ∈ cs, c.may = true) (W : World) (hW : Below w2.heap.size w2 W) :
    Calls Try.prog 63 #[.pointer (some ⟨q, 0, none⟩), .slice ac cs.length capc] W fun e w' => ∃ al c, e = .returned (.tuple #[.slice al cs.length c, .int .i64 0]) ∧ RInvD w2 w' q vl (doAll s cs).2 (doAll s cs).1 (.slice al cs.length c) := by
  refine (refDoYes W q vl s l (h.grown hW) ac capc cs (fun hne => (hr hne).keep fun k hk => hW.block k (reads_lt (hr hne) hk)) hoff hc hall).mono ?_
  rintro e w3 ⟨v3, rfl, hI3⟩
  obtain ⟨al3, c3, hv3⟩ := hI3.own.len
  rw [List.length_map, doAll_len] at hv3
  subst hv3
  exact ⟨al3, c3, rfl, hI3.from_ hW⟩
theorem end_do {w w1 w2 w3 w7 : World} {bp kb n p b : Nat} {D : DataW Value} {q : Nat} {vl : Value} {l : List KV} {s : St} (h : PairAt w bp p b D q vl l s) {vR vF : Value} {eR eF : List Ent} (hB : BookAt w kb vR vF eR eF n) (hPB : ∀ x, footP bp p b D q vl x → ¬ footBk kb vR vF eR eF x) (hn : n ≤ 900000000)
    {cs : List Cmd} (hc : cs.length ≤ 1048576) (hall : ∀ c ∈ cs, c.may = true) (T1 : w.turned w1 (fun _ => False)) {g g2 : Nat} (hg : w.heap.size ≤ g) (hg1 : g < w1.heap.size) (hD : DoPost w1 w2 p b D s cs g2) {al3 : Option Addr} {c3 : Nat} (hI : RInvD w2 w3 q vl (doAll s cs).2 (doAll s cs).1 (.slice al3 cs.length c3)) (T7 : w3.turned w7 (fun x => x = g)) (W : World) (hW : Below w7.heap.size w7 W) :
    Calls Try.prog 66 #[.pointer (some ⟨kb, 0, none⟩), .slice (some ⟨g2, 0, none⟩) cs.length cs.length] W fun e w' => e = .returned (.tuple #[]) ∧ ActOut w bp kb n (footP bp p b D q vl) (footBk kb vR vF eR eF) (.returned (.bool true)) w' := by
  have TW : w3.turned W (fun x => x = g) := T7.trans (World.turned.of_below hW (fun x => x = g)) fun k _ h => h
  obtain ⟨o2, hge, ⟨D2, hd1, hd2, hd3⟩, T2⟩ := hD
  obtain ⟨⟨vl3, l3, hr1, hr2, T3⟩, ho3, hn3⟩ := hI
  obtain ⟨hP, hF, hT⟩ := pair_do h T1 hg hg1 T2 hd2 hd3 T3 hr1 hr2 TW (h.sav.all cs hall)
  have i1 := T1.size
  have i2 := T2.size
  have i3 := T3.size
  have g2l : g2 < w2.heap.size := o2.lt rfl
  have oW : W.ownL 72 3 (.slice (some ⟨g2, 0, none⟩) cs.length cs.length) ((doAll s cs).1.map Res.cells) := o2.keep fun k hk => by
    have hk' : g2 = k := by simpa [Value.ownBlock] using hk
    subst hk'
    rw [TW.block g2 (by omega) (by omega), T3.block g2 g2l fun hx => by have := h.rf.foot_lt hx; omega]
  have hB7 : BookAt W kb vR vF eR eF n := hB.beside hT fun x hx hy => hPB x hy hx
  have hb := bookRes W kb n vR vF eR eF hB7 (some ⟨g2, 0, none⟩) cs.length ((doAll s cs).1.map Res.cells)
  rw [List.length_map, doAll_len] at hb
  refine (hb oW (fun k hk hx => ?_) (by omega) hn).mono ?_
  · have hk' : g2 = k := by simpa [Value.ownBlock] using hk
    have := hB.foot_lt hx; omega
  · rintro e w8 ⟨rfl, hOut⟩
    refine ⟨rfl, actOut_end h hB hPB hT hP hF (v := .slice (some ⟨g2, 0, none⟩) cs.length cs.length) (fun x hx => ?_) hOut⟩
    have hk' : g2 = x := by simpa [Value.ownBlock] using hx
    subst hk'
    refine ⟨by omega, fun hx => ?_⟩
    rcases hx with h1 | h1 | h1 | h1
    · have := h.lt; omega
    · exact hd1 h1
    · have := h.rf.lt; omega
    · rcases hr2 _ h1 with h2 | h2
      · have := h.rf.foot_lt (.inr h2); omega
      · omega
set_option maxRecDepth 100000 in
set_option maxHeartbeats 8000000 in
theorem actDoYes (w : World) (bp kb n p b : Nat) (D : DataW Value) (q : Nat) (vl : Value) (l : List KV) (s : St) (h : PairAt w bp p b D q vl l s) (vR vF : Value) (eR eF : List Ent) (hB : BookAt w kb vR vF eR eF n) (hPB : ∀ x, footP bp p b D q vl x → ¬ footBk kb vR vF eR eF x) (hn : n ≤ 900000000)
    (ac : Option Addr) (capc : Nat) (cs : List Cmd) (hr : cs ≠ [] → w.reads 7 (.slice ac cs.length capc) (cs.map Cmd.cells)) (hoff : cs ≠ [] → ∀ k, (Value.slice ac cs.length capc).ownBlock = some k → ¬ footP bp p b D q vl k) (hc : cs.length ≤ 1048576) (hall : ∀ c ∈ cs, c.may = true) (fr to t : ByteArray) (rev most : Int) :
    Calls Try.prog 27 #[.pointer (some ⟨bp, 0, none⟩), .agg #[.int .i64 1, .slice ac cs.length capc, .string fr, .string to, .int .i64 rev, .int .i64 most, .string t], .pointer (some ⟨kb, 0, none⟩)] w (ActOut w bp kb n (footP bp p b D q vl) (footBk kb vR vF eR eF)) := by
  have H : Hid (PairAt w bp p b D q vl l s) := h
  have HBK : Hid (BookAt w kb vR vF eR eF n) := hB
  have HPB : Hid (∀ x, footP bp p b D q vl x → ¬ footBk kb vR vF eR eF x) := hPB
  have HN : Hid (n ≤ 900000000) := hn
  have HR : Hid (cs ≠ [] → w.reads 7 (.slice ac cs.length capc) (cs.map Cmd.cells)) := hr
  have HOFF : Hid (cs ≠ [] → ∀ k, (Value.slice ac cs.length capc).ownBlock = some k → ¬ footP bp p b D q vl k) := hoff
  have HALL : Hid (∀ c ∈ cs, c.may = true) := hall
  have hbp := h.lt
  clear h hB hPB hn hr hoff hall
  go_enter Try.func27, Try.ntmps27
  go_wp2_with fail
  obtain ⟨W0, hW0⟩ : ∃ W0, w.alloc (.cells #[.int .i64 1, .slice ac cs.length capc, .string fr, .string to, .int .i64 rev, .int .i64 most, .string t] 61) = W0 := ⟨_, rfl⟩
  have hb0 : Below w.heap.size w W0 := by rw [← hW0]; exact (by repeat (first | exact Below.refl _ _ | assumption | with_reducible refine below_drewN ?_ _ | refine Gr.ext ?_ _ | refine Gr.alloc ?_ _ | refine Gr.drew ?_ | (refine Gr.set ?_ (by first | (simp; done) | (simp; omega)) _)))
  have hz0 : w.heap.size < W0.heap.size := by rw [← hW0]; simp
  have hA0 : W0.heap[w.heap.size]? = some (.cells #[.int .i64 1, .slice ac cs.length capc, .string fr, .string to, .int .i64 rev, .int .i64 most, .string t] 61) := by rw [← hW0]; exact heap_alloc_new _ _
  rw [hW0]
  clear hW0
  have HB0 : Hid (Below w.heap.size w W0) := hb0
  have HA0 : Hid (W0.heap[w.heap.size]? = some (.cells #[.int .i64 1, .slice ac cs.length capc, .string fr, .string to, .int .i64 rev, .int .i64 most, .string t] 61)) := hA0
  clear hb0 hA0
  refine (lawLent _ ac capc cs (fun hne => (HR.out hne).keep fun k hk => HB0.out.block k (reads_lt (HR.out hne) hk)) hc).mono ?_
  rintro e w1 ⟨g, rfl, hg, ho1, hb1⟩
  have HB1 : Hid (Below W0.heap.size W0 w1) := hb1
  have HO1 : Hid (w1.ownL 23 7 (.slice (some ⟨g, 0, none⟩) (cs.length + 8) (cs.length + 8)) ((lentL cs).map Cmd.cells)) := ho1
  have HG : Hid (W0.heap.size ≤ g ∧ g < w1.heap.size) := ⟨hg, ho1.lt rfl⟩
  have hA1 := (hb1.block _ hz0).trans HA0.out
  have hz1 : w.heap.size < w1.heap.size := by have := hb1.size; omega
  have HT1 : Hid (w.turned w1 (fun _ => False)) := World.turned.of_below (HB0.out.trans (hb1.mono HB0.out.size)) _
  obtain ⟨a0, a1, a2, a3, a4, a5, a6, af⟩ := ask_cells hA1
  obtain ⟨k0, k1, kf⟩ := pair_cells (H.out.beside HT1.out fun _ _ h => h).blk
  have HA1 : Hid (w1.heap[w.heap.size]? = some (.cells #[.int .i64 1, .slice ac cs.length capc, .string fr, .string to, .int .i64 rev, .int .i64 most, .string t] 61)) := hA1
  clear hb1 ho1 hg hA1
  have HDO : Hid (∀ W, Below w1.heap.size w1 W → Calls Try.prog 31 #[.pointer (some ⟨p, 0, none⟩), .slice (some ⟨g, 0, none⟩) cs.length (cs.length + 8)] W fun e w' => ∃ g2, e = .returned (.tuple #[.slice (some ⟨g2, 0, none⟩) cs.length cs.length, .int .i64 0]) ∧ DoPost w1 w' p b D s cs g2) :=
    storeDoAt w1 p b D s (H.out.beside HT1.out fun _ _ h => h).st g cs HO1.out (fun hx => by have := H.out.st.foot_lt hx; have := HG.out.1; omega) hc HALL.out
  go_wp2_with fail
  go_region_with (go_at_call 31; refine (HDO.out _ (by repeat (first | exact Below.refl _ _ | assumption | with_reducible refine below_drewN ?_ _ | refine Gr.ext ?_ _ | refine Gr.alloc ?_ _ | refine Gr.drew ?_ | (refine Gr.set ?_ (by first | (simp; done) | (simp; omega)) _)))).mono ?_; rintro e w2 ⟨g2, rfl, hdo⟩)
  all_goals
    have HD2 : Hid (DoPost w1 w2 p b D s cs g2) := hdo
    have hA2 := (hdo.turned.block _ hz1 fun hx => by have := H.out.st.foot_lt hx; omega).trans HA1.out
    have hz2 : w.heap.size < w2.heap.size := by have := hdo.turned.size; omega
    have hK2 := (hdo.turned.block bp (by omega) H.out.sb).trans (H.out.beside HT1.out fun _ _ h => h).blk
    clear a0 a1 a2 a3 a4 a5 a6 af k0 k1 kf HDO
    obtain ⟨a0, a1, a2, a3, a4, a5, a6, af⟩ := ask_cells hA2
    obtain ⟨k0, k1, kf⟩ := pair_cells hK2
    have HA2 : Hid (w2.heap[w.heap.size]? = some (.cells #[.int .i64 1, .slice ac cs.length capc, .string fr, .string to, .int .i64 rev, .int .i64 most, .string t] 61)) := hA2
    have HT2 : Hid (w.turned w2 (footP bp p b D q vl)) := (HT1.out.mono (S' := footP bp p b D q vl) fun k _ h => absurd h id).trans hdo.turned fun k _ h => .inr (.inl h)
    have HRF2 : Hid (RefAt w2 q vl s l) := (H.out.beside HT1.out fun _ _ h => h).rf.beside hdo.turned fun x hx hy => H.out.sr x hy hx
    have HRD2 : Hid (cs ≠ [] → w2.reads 7 (.slice ac cs.length capc) (cs.map Cmd.cells)) := fun hne => (HR.out hne).keep fun k hk => HT2.out.block k (reads_lt (HR.out hne) hk) (HOFF.out hne k hk)
    clear hdo hA2 hK2
    have HDR := refDoAt w2 q vl s l HRF2.out ac capc cs HRD2.out (fun hne k hk hf => HOFF.out hne k hk (.inr (.inr hf))) hc HALL.out
    have HDRH : Hid _ := HDR
    clear HDR
    go_wp2_with fail
    go_region_with (
      go_at_call 63
      refine (HDRH.out _ (by repeat (first | exact Below.refl _ _ | assumption | with_reducible refine below_drewN ?_ _ | refine Gr.ext ?_ _ | refine Gr.alloc ?_ _ | refine Gr.drew ?_ | (refine Gr.set ?_ (by first | (simp; done) | (simp; omega)) _)))).mono ?_
      rintro e w3 ⟨al3, c3, rfl, hI3⟩
      have HI3 : Hid (RInvD w2 w3 q vl (doAll s cs).2 (doAll s cs).1 (.slice al3 cs.length c3)) := hI3
      have ht3 : w2.turned w3 (footR q vl) := by obtain ⟨_, _, _, _, h⟩ := hI3.chg; exact h
      have HT3' : Hid (w2.turned w3 (footR q vl)) := ht3
      have hA3 := (ht3.block _ hz2 fun hx => by have := H.out.rf.foot_lt hx; omega).trans HA2.out
      have hz3 : w.heap.size < w3.heap.size := by have := ht3.size; omega
      clear a0 a1 a2 a3 a4 a5 a6 af k0 k1 kf
      obtain ⟨a0, a1, a2, a3, a4, a5, a6, af⟩ := ask_cells hA3
      have HT3 : Hid (w.turned w3 (footP bp p b D q vl)) := HT2.out.trans ht3 fun k _ h => .inr (.inr h)
      clear hI3 hA3 ht3 HDRH)
    all_goals
      have HO3 : Hid (w3.ownL 23 7 (.slice (some ⟨g, 0, none⟩) (cs.length + 8) (cs.length + 8)) ((lentL cs).map Cmd.cells)) := (HO1.out.keep fun k hk => by
        have hk' : g = k := by simpa [Value.ownBlock] using hk
        have h1 := HG.out
        have h2 := HB0.out.size
        have h3 := HD2.out.turned.size
        subst hk'
        rw [HT3'.out.block g (by omega) (fun hx => by have := H.out.rf.foot_lt hx; omega), HD2.out.turned.block g (by omega) (fun hx => by have := H.out.st.foot_lt hx; omega)])
      have HLN : Hid (∀ W, Below w3.heap.size w3 W → Calls Try.prog 62 #[.slice ac cs.length capc] W fun e w' => ∃ g4, e = .returned (.slice (some ⟨g4, 0, none⟩) (cs.length + 8) (cs.length + 8)) ∧ Below w3.heap.size w3 w' ∧ w'.ownL 23 7 (.slice (some ⟨g4, 0, none⟩) (cs.length + 8) (cs.length + 8)) ((lentL cs).map Cmd.cells)) := by
        intro W hW
        refine (lawLent W ac capc cs (fun hne => ((HR.out hne).keep fun k hk => HT3.out.block k (reads_lt (HR.out hne) hk) (HOFF.out hne k hk)).keep fun k hk => hW.block k (by have := reads_lt (HR.out hne) hk; have := HT3.out.size; omega)) hc).mono ?_
        rintro e w4 ⟨g4, rfl, h1, h2, h3⟩
        exact ⟨g4, rfl, below_via h3 hW, h2⟩
      go_wp2_with fail
      refine (HLN.out _ (by repeat (first | exact Below.refl _ _ | assumption | with_reducible refine below_drewN ?_ _ | refine Gr.ext ?_ _ | refine Gr.alloc ?_ _ | refine Gr.drew ?_ | (refine Gr.set ?_ (by first | (simp; done) | (simp; omega)) _)))).mono ?_
      rintro e w4 ⟨g4, rfl, hb4, ho4⟩
      have HB4 : Hid (Below w3.heap.size w3 w4) := hb4
      have HSC : Hid (∀ W, Below w4.heap.size w4 W → Calls Try.prog 64 #[.slice (some ⟨g, 0, none⟩) (cs.length + 8) (cs.length + 8), .slice (some ⟨g4, 0, none⟩) (cs.length + 8) (cs.length + 8)] W fun e w' => e = .returned (.bool true) ∧ Below w4.heap.size w4 w') := by
        intro W hW
        refine (same_lent W g g4 cs hc ((HO3.out.keep fun k hk => hb4.block k (HO3.out.lt hk)).keep fun k hk => hW.block k ((HO3.out.keep fun k hk => hb4.block k (HO3.out.lt hk)).lt hk)) (ho4.keep fun k hk => hW.block k (ho4.lt hk))).mono ?_
        rintro e w5 ⟨rfl, n5, rfl⟩
        exact ⟨rfl, below_drewN hW n5⟩
      clear hb4 ho4 a0 a1 a2 a3 a4 a5 a6 af HLN
      go_wp2_with fail
      refine (HSC.out _ (by repeat (first | exact Below.refl _ _ | assumption | with_reducible refine below_drewN ?_ _ | refine Gr.ext ?_ _ | refine Gr.alloc ?_ _ | refine Gr.drew ?_ | (refine Gr.set ?_ (by first | (simp; done) | (simp; omega)) _)))).mono ?_
      rintro e w5 ⟨rfl, hb5⟩
      have HB5 : Hid (Below w3.heap.size w3 w5) := HB4.out.trans (hb5.mono HB4.out.size)
      clear hb5 HSC
      go_wp2_with fail
      have HSP : Hid (∀ W, Below w5.heap.size w5 W → Calls Try.prog 65 #[.slice (some ⟨g, 0, none⟩) (cs.length + 8) (cs.length + 8)] W fun e w' => e = .returned (.tuple #[]) ∧ w3.turned w' (fun x => x = g)) := by
        intro W hW
        have hb : Below w3.heap.size w3 W := HB5.out.trans (hW.mono HB5.out.size)
        refine (lawSpoil W g (cs.length + 8) ((lentL cs).map Cmd.cells) (by rw [List.length_map, lentL_len]) (HO3.out.keep fun k hk => hb.block k (HO3.out.lt hk)) (by omega)).mono ?_
        rintro e w6 ⟨rfl, h6⟩
        exact ⟨rfl, (World.turned.of_below hb _).trans h6 fun k _ h => h⟩
      refine (HSP.out _ (by repeat (first | exact Below.refl _ _ | assumption | with_reducible refine below_drewN ?_ _ | refine Gr.ext ?_ _ | refine Gr.alloc ?_ _ | refine Gr.drew ?_ | (refine Gr.set ?_ (by first | (simp; done) | (simp; omega)) _)))).mono ?_
      rintro e w6 ⟨rfl, ht6⟩
      have HT6 : Hid (w3.turned w6 (fun x => x = g)) := ht6
      clear ht6 HSP
      have HSR : Hid (∀ W, Below w6.heap.size w6 W → Calls Try.prog 36 #[.slice (some ⟨g2, 0, none⟩) cs.length cs.length, .slice al3 cs.length c3] W fun e w' => e = .returned (.bool true) ∧ Below w6.heap.size w6 w') := by
        intro W hW
        have hT : w3.turned W (fun x => x = g) := HT6.out.trans (World.turned.of_below hW (fun x => x = g)) fun k _ h => h
        have h1 := HG.out
        have h2 := HD2.out.ge
        have h3 := HD2.out.turned.size
        have o2 := HD2.out.own
        have g2l : g2 < w2.heap.size := o2.lt rfl
        have hs := sameResults_same (some ⟨g2, 0, none⟩) al3 cs.length c3 (doAll s cs).1 W (by rw [doAll_len]; omega)
        rw [doAll_len] at hs
        refine (hs ((o2.keep fun k hk => ?_).reads) ((HI3.out.own.keep fun k hk => ?_).reads)).mono ?_
        · have hk' : g2 = k := by simpa [Value.ownBlock] using hk
          subst hk'
          rw [hT.block g2 (by have := HT3'.out.size; omega) (by omega), HT3'.out.block g2 g2l fun hx => by have := H.out.rf.foot_lt hx; have := HT1.out.size; omega]
        · have h5 := HI3.out.new k hk
          exact hT.block k (HI3.out.own.lt hk) (by omega)
        · rintro e w7 ⟨rfl, n7, rfl⟩
          exact ⟨rfl, below_drewN hW n7⟩
      go_wp2_with fail
      refine (HSR.out _ (by repeat (first | exact Below.refl _ _ | assumption | with_reducible refine below_drewN ?_ _ | refine Gr.ext ?_ _ | refine Gr.alloc ?_ _ | refine Gr.drew ?_ | (refine Gr.set ?_ (by first | (simp; done) | (simp; omega)) _)))).mono ?_
      rintro e w7 ⟨rfl, hb7⟩
      have HB7 : Hid (w3.turned w7 (fun x => x = g)) := HT6.out.trans (World.turned.of_below hb7 (fun x => x = g)) fun k _ h => h
      clear hb7 HSR
      have HEND := end_do H.out HBK.out HPB.out HN.out hc HALL.out HT1.out (by have := HB0.out.size; have := HG.out.1; omega) HG.out.2 HD2.out HI3.out HB7.out
      have HENDH : Hid _ := HEND
      clear HEND
      go_wp2_with fail
      refine (HENDH.out _ (by repeat (first | exact Below.refl _ _ | assumption | with_reducible refine below_drewN ?_ _ | refine Gr.ext ?_ _ | refine Gr.alloc ?_ _ | refine Gr.drew ?_ | (refine Gr.set ?_ (by first | (simp; done) | (simp; omega)) _)))).mono ?_
      rintro e w8 ⟨rfl, hA⟩
      have HA8 : Hid _ := hA
      clear hA HENDH
      go_wp2_with fail
      exact bodyPost_ret (v := .bool true) (by simp [results, Try.results27, go_sem]) rfl ⟨rfl, HA8.out.2⟩
end Go.Proofs.Ytcbbnmodjnnbeaa
