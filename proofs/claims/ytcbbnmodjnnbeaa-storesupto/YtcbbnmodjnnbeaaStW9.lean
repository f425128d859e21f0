/- The law on stores: one act, of any kind. -/
import Derived.Test.YtcbbnmodjnnbeaaStW3
import Derived.Test.YtcbbnmodjnnbeaaStW5
import Derived.Test.YtcbbnmodjnnbeaaStW6c
import Derived.Deep.RegionHeld3
set_option linter.unusedSimpArgs false
set_option linter.unusedVariables false
namespace Go.Proofs.Ytcbbnmodjnnbeaa
open Go.RowKit

section
variable {w w' : World} {bp kb n : Nat} {FP FB FP1 FB1 : Nat → Prop} {e : Ending}
theorem ActOut.mono (h : ActOut w bp kb n FP FB e w') (h1 : ∀ x, FP x → FP1 x) (h2 : ∀ x, FB x → FB1 x) : ActOut w bp kb n FP1 FB1 e w' := by
  obtain ⟨he, FP', FB', a1, a2, a3, a4, a5, a6⟩ := h
  exact ⟨he, FP', FB', a1, a2, a3, fun x hx => (a4 x hx).imp (h1 x) id, fun x hx => (a5 x hx).imp (h2 x) id, a6.mono fun k _ hk => hk.imp (h1 k) (h2 k)⟩
theorem actOut_below (hP : PairIn w bp FP) (hB : BookIn w kb FB n) (hPB : ∀ x, FP x → ¬ FB x) (he : e = .returned (.bool true)) (hb : Below w.heap.size w w') : ActOut w bp kb n FP FB e w' :=
  ⟨he, FP, FB, hP.beside (World.turned.of_below hb fun _ => False) fun _ _ h => h, (hB.beside (World.turned.of_below hb fun _ => False) fun _ _ h => h).up (by omega), hPB, fun x hx => .inl hx, fun x hx => .inl hx, World.turned.of_below hb _⟩
theorem actOut_load (hB : BookIn w kb FB n) (hPB : ∀ x, FP x → ¬ FB x) (he : e = .returned (.bool true)) {F G : Nat → Prop} (hF : PairIn w' bp F) (hG : ∀ x, F x → G x ∨ w.heap.size ≤ x) (hGP : ∀ x, G x → FP x) (hbp : FP bp) (ht : w.turned w' (fun x => x = bp)) : ActOut w bp kb n FP FB e w' := by
  refine ⟨he, F, FB, hF, (hB.beside ht fun x hx e => hPB bp hbp (e ▸ hx)).up (by omega), fun x hx hy => ?_, fun x hx => (hG x hx).imp (hGP x) id, fun x hx => .inl hx, ht.mono fun k _ hk => .inl (hk ▸ hbp)⟩
  rcases hG x hx with h1 | h1
  · exact hPB x (hGP x h1) hy
  · have := hB.lt x hy; omega
end
theorem lawAct (w : World) (bp kb n : Nat) (FP FB : Nat → Prop) (hP : PairIn w bp FP) (hB : BookIn w kb FB n) (hPB : ∀ x, FP x → ¬ FB x) (hn : n ≤ 900000000) (k : Int) (ac : Option Addr) (capc : Nat) (cs : List Cmd) (hr : cs ≠ [] → w.reads 7 (.slice ac cs.length capc) (cs.map Cmd.cells))
    (hoff : cs ≠ [] → ∀ k, (Value.slice ac cs.length capc).ownBlock = some k → ¬ FP k) (hc : cs.length ≤ 1048576) (fr to t : ByteArray) (rev most : Int) (ht : t.size ≤ 100000000) (hmost : most < 9223372036854775808) :
    Calls Try.prog 27 #[.pointer (some ⟨bp, 0, none⟩), .agg #[.int .i64 k, .slice ac cs.length capc, .string fr, .string to, .int .i64 rev, .int .i64 most, .string t], .pointer (some ⟨kb, 0, none⟩)] w (ActOut w bp kb n FP FB) := by
  obtain ⟨p, b, D, q, vl, l, s, h, hsub⟩ := hP.is
  obtain ⟨vR, vF, eR, eF, hb, hbsub⟩ := hB.is
  have hPB' : ∀ x, footP bp p b D q vl x → ¬ footBk kb vR vF eR eF x := fun x hx hy => hPB x (hsub x hx) (hbsub x hy)
  have up : ∀ {e w'}, ActOut w bp kb n (footP bp p b D q vl) (footBk kb vR vF eR eF) e w' → ActOut w bp kb n FP FB e w' := fun h => h.mono hsub hbsub
  have hbp : FP bp := hsub bp (.inl rfl)
  by_cases k1 : k = 1
  · subst k1
    by_cases hall : ∀ c ∈ cs, c.may = true
    · exact (actDoYes w bp kb n p b D q vl l s h vR vF eR eF hb hPB' hn ac capc cs hr (fun hne k hk hf => hoff hne k hk (hsub k hf)) hc hall fr to t rev most).mono fun e w' h => up h
    · have hno : ∃ c ∈ cs, c.may = false := by
        refine Classical.byContradiction fun hno => hall fun c hcs => ?_
        cases hm : c.may with
        | true => rfl
        | false => exact absurd ⟨c, hcs, hm⟩ hno
      obtain ⟨c, hcs, hm⟩ := hno
      exact (actDoNo w bp kb n p b D q vl l s h vR vF eR eF hb hPB' hn ac capc cs (hr (List.ne_nil_of_mem hcs)) hc ⟨c, hcs, hm⟩ fr to t rev most).mono fun e w' h => up h
  by_cases k2 : k = 2
  · subst k2
    by_cases hm : most < 0
    · exact (actRangeArg w bp kb n p b D q vl l s h vR vF eR eF hb hPB' hn ac cs.length capc fr to t rev most hm).mono fun e w' h => up h
    · by_cases hrv : rev < s.floor ∨ (s.rev : Int) < rev
      · exact (actRangeRev w bp kb n p b D q vl l s h vR vF eR eF hb hPB' hn ac cs.length capc fr to t rev most (by omega) hrv).mono fun e w' h => up h
      · obtain ⟨m, rfl⟩ := Int.eq_ofNat_of_zero_le (show 0 ≤ most by omega)
        exact (actRangeOk w bp kb n p b D q vl l s h vR vF eR eF hb hPB' hn ac cs.length capc fr to t rev m (by omega) (by omega) (by omega)).mono fun e w' h => up h
  by_cases k3 : k = 3
  · subst k3
    exact (actRevs w bp kb p b D q vl l s h _ fr to t rev most ac cs.length capc rfl).mono fun e w' h => actOut_below hP hB hPB h.1 h.2
  by_cases k4 : k = 4
  · subst k4
    exact (actSave w bp kb p b D q vl l s h _ fr to t rev most ac cs.length capc rfl).mono fun e w' h => actOut_below hP hB hPB h.1 h.2
  by_cases k5 : k = 5
  · subst k5
    refine (actLoad w bp kb p b D q vl l s h _ fr to t rev most ac cs.length capc rfl ht).mono ?_
    rintro e w' ⟨he, F, h1, h2, h3⟩
    exact actOut_load hB hPB he h1 h2 hsub hbp h3
  by_cases k6 : k = 6
  · subst k6
    refine (actAgain w bp kb p b D q vl l s h _ fr to t rev most ac cs.length capc rfl).mono ?_
    rintro e w' ⟨he, F, h1, h2, h3⟩
    exact actOut_load hB hPB he h1 h2 hsub hbp h3
  · exact (actOther w bp kb k _ fr to t rev most ac cs.length capc rfl (beq_eq_false_iff_ne.2 k1) (beq_eq_false_iff_ne.2 k2) (beq_eq_false_iff_ne.2 k3) (beq_eq_false_iff_ne.2 k4) (beq_eq_false_iff_ne.2 k5) (beq_eq_false_iff_ne.2 k6)).mono fun e w' h => actOut_below hP hB hPB h.1 h.2
end Go.Proofs.Ytcbbnmodjnnbeaa
/- The law on stores: the loop over two scripts. -/
set_option linter.unusedSimpArgs false
set_option linter.unusedVariables false
namespace Go.Proofs.Ytcbbnmodjnnbeaa
open Go.RowKit

structure AskV where
  kind : Int
  ca : Option Addr
  cc : Nat
  cs : List Cmd
  fr : ByteArray
  to : ByteArray
  rev : Int
  most : Int
  t : ByteArray
def AskV.cells (x : AskV) : List Value := [.int .i64 x.kind, .slice x.ca x.cs.length x.cc, .string x.fr, .string x.to, .int .i64 x.rev, .int .i64 x.most, .string x.t]
structure AskV.ok (w : World) (x : AskV) : Prop where
  rd : x.cs ≠ [] → w.reads 7 (.slice x.ca x.cs.length x.cc) (x.cs.map Cmd.cells)
  len : x.cs.length ≤ 1048576
  txt : x.t.size ≤ 100000000
  most : x.most < 9223372036854775808
/-- The state of the law. -/
structure TwoS2 (w wr : World) (bp bq kb n : Nat) : Prop where
  below : Below w.heap.size w wr
  is : ∃ FP FQ FB : Nat → Prop, PairIn wr bp FP ∧ PairIn wr bq FQ ∧ BookIn wr kb FB n ∧ (∀ x, FP x → ¬ FQ x) ∧ (∀ x, FP x → ¬ FB x) ∧ (∀ x, FQ x → ¬ FB x) ∧ (∀ x, FP x ∨ FQ x ∨ FB x → w.heap.size ≤ x)
theorem TwoS2.grow {w wr W : World} {bp bq kb n : Nat} (h : TwoS2 w wr bp bq kb n) (hb : Below wr.heap.size wr W) : TwoS2 w W bp bq kb n := by
  obtain ⟨h0, FP, FQ, FB, a1, a2, a3, a4⟩ := h
  have t := World.turned.of_below hb (fun _ => False)
  exact ⟨h0.trans (hb.mono h0.size), FP, FQ, FB, a1.beside t fun _ _ h => h, a2.beside t fun _ _ h => h, a3.beside t fun _ _ h => h, a4⟩
theorem TwoS2.swap {w wr : World} {bp bq kb n : Nat} (h : TwoS2 w wr bp bq kb n) : TwoS2 w wr bq bp kb n := by
  obtain ⟨h0, FP, FQ, FB, a1, a2, a3, a4, a5, a6, a7⟩ := h
  exact ⟨h0, FQ, FP, FB, a2, a1, a3, fun x hx hy => a4 x hy hx, a6, a5, fun x hx => a7 x (hx.elim (fun h => .inr (.inl h)) fun h => h.elim .inl fun h => .inr (.inr h))⟩
theorem TwoS2.act {w wr : World} {bp bq kb n : Nat} (h : TwoS2 w wr bp bq kb n) (hn : n ≤ 900000000) (x : AskV) (hx : x.ok w) (W : World) (hW : Below wr.heap.size wr W) :
    Calls Try.prog 27 #[.pointer (some ⟨bp, 0, none⟩), .agg x.cells.toArray, .pointer (some ⟨kb, 0, none⟩)] W fun e w' => e = .returned (.bool true) ∧ TwoS2 w w' bp bq kb (n + 4) := by
  obtain ⟨h0, FP, FQ, FB, a1, a2, a3, a4, a5, a6, a7⟩ := h.grow hW
  have hge : ∀ k, k < w.heap.size → ¬ FP k := fun k hk hF => by have := a7 k (.inl hF); omega
  refine (lawAct W bp kb n FP FB a1 a3 a5 hn x.kind x.ca x.cc x.cs (fun hne => (hx.rd hne).keep fun k hk => h0.block k (reads_lt (hx.rd hne) hk)) (fun hne k hk => hge k (reads_lt (hx.rd hne) hk)) hx.len x.fr x.to x.t x.rev x.most hx.txt hx.most).mono ?_
  rintro e w' ⟨rfl, FP', FB', b1, b2, b3, b4, b5, b6⟩
  have hs := h0.size
  have hs2 := b6.size
  refine ⟨rfl, h0.trans ⟨b6.os, b6.tape, b6.output, b6.size, fun k hk => b6.block k (by omega) fun e => ?_⟩, FP', FQ, FB', b1, a2.beside b6 fun y hy hS => ?_, b2, fun y hy hz => ?_, b3, fun y hy hz => ?_, fun y hy => ?_⟩
  · rcases e with e | e
    · have := a7 k (.inl e); omega
    · have := a7 k (.inr (.inr e)); omega
  · rcases hS with h1 | h1
    · exact a4 y h1 hy
    · exact a6 y hy h1
  · have := a2.lt y hz
    rcases b4 y hy with h1 | h1
    · exact a4 y h1 hz
    · omega
  · have := a2.lt y hy
    rcases b5 y hz with h1 | h1
    · exact a6 y hy h1
    · omega
  · rcases hy with hy | hy | hy
    · rcases b4 y hy with h1 | h1
      · exact a7 y (.inl h1)
      · omega
    · exact a7 y (.inr (.inl hy))
    · rcases b5 y hy with h1 | h1
      · exact a7 y (.inr (.inr h1))
      · omega
theorem TwoS2.looks {w wr : World} {bp bq kb n : Nat} (h : TwoS2 w wr bp bq kb n) (hn : n ≤ 900000000) (W : World) (hW : Below wr.heap.size wr W) : Calls Try.prog 22 #[.pointer (some ⟨kb, 0, none⟩)] W fun e w' => e = .returned (.bool true) ∧ TwoS2 w w' bp bq kb n := by
  have h1 := h.grow hW
  obtain ⟨FP, FQ, FB, a1, a2, a3, _⟩ := h1.is
  exact (bookLooks W kb n _ a3 hn).mono fun e w' h2 => ⟨h2.1, h1.grow h2.2⟩
end Go.Proofs.Ytcbbnmodjnnbeaa
/- The law on stores: the walk. -/
set_option linter.unusedSimpArgs false
set_option linter.unusedVariables false
namespace Go.Proofs.Ytcbbnmodjnnbeaa
open Go.RowKit

theorem pairNew {w w1 w2 W : World} {p b q bp : Nat} {D : DataW Value} (h0 : w.heap.size ≤ w1.heap.size) (hst : StoreAt w1 p b D St.empty) (hf : ∀ x, footS p b D x → w.heap.size ≤ x) (hb2 : Below w1.heap.size w1 w2) (hrf : RefAt w2 q nilS St.empty []) (hq : w1.heap.size ≤ q) (hb3 : Below w2.heap.size w2 W) (hbp : w2.heap.size ≤ bp)
    (hc : W.heap[bp]? = some (.cells #[.pointer (some ⟨p, 0, none⟩), .pointer (some ⟨q, 0, none⟩)] 57)) : PairAt W bp p b D q nilS [] St.empty ∧ ∀ x, footP bp p b D q nilS x → w.heap.size ≤ x := by
  have i2 := hb2.size
  have f1 : ∀ x, footS p b D x → x < w1.heap.size := fun x hx => hst.foot_lt hx
  have f2 : ∀ x, footR q nilS x → x = q := fun x hx => by
    rcases hx with h | h
    · exact h
    · cases h
  refine ⟨⟨hc, hst.grown (hb2.trans (hb3.mono i2)), hrf.grown hb3, Sav.empty, fun hx => by have := f1 _ hx; omega, fun hx => by have := f2 _ hx; have := hrf.lt; omega, fun x hx hy => by have := f1 x hx; have := f2 x hy; omega⟩, fun x hx => ?_⟩
  rcases hx with h | h | h
  · omega
  · exact hf x h
  · have := f2 x h; omega
theorem TwoS2.up {w wr : World} {bp bq kb n m : Nat} (h : TwoS2 w wr bp bq kb n) (hm : n ≤ m) : TwoS2 w wr bp bq kb m := by
  obtain ⟨h0, FP, FQ, FB, a1, a2, a3, a4⟩ := h
  exact ⟨h0, FP, FQ, FB, a1, a2, a3.up hm, a4⟩
theorem twoNew {w W1 w3 w4 : World} {bp p1 b1 q1 p2 b2 q2 : Nat} {D1 D2 : DataW Value} (hBW : Below w.heap.size w W1) (hP1 : PairAt W1 bp p1 b1 D1 q1 nilS [] St.empty ∧ ∀ x, footP bp p1 b1 D1 q1 nilS x → w.heap.size ≤ x) (hst : StoreAt w3 p2 b2 D2 St.empty) (hf : ∀ x, footS p2 b2 D2 x → W1.heap.size ≤ x) (hB3 : Below W1.heap.size W1 w3)
    (hR4 : RefAt w4 q2 nilS St.empty [] ∧ w3.heap.size ≤ q2 ∧ Below w3.heap.size w3 w4) : TwoS2 w ((w4.alloc (.cells #[.pointer (some ⟨p2, 0, none⟩), .pointer (some ⟨q2, 0, none⟩)] 57)).alloc (.cells #[.slice none 0 0, .slice none 0 0, .slice none 0 0, .slice none 0 0] 43)) bp w4.heap.size (w4.heap.size + 1) 0 := by
  have i3 := hB3.size
  have i4 := hR4.2.2.size
  have iw := hBW.size
  have hB4 : Below W1.heap.size W1 w4 := hB3.trans (hR4.2.2.mono i3)
  have hBA : Below w4.heap.size w4 (w4.alloc (.cells #[.pointer (some ⟨p2, 0, none⟩), .pointer (some ⟨q2, 0, none⟩)] 57)) := (by repeat (first | exact Below.refl _ _ | assumption | with_reducible refine below_drewN ?_ _ | refine Gr.ext ?_ _ | refine Gr.alloc ?_ _ | refine Gr.drew ?_ | (refine Gr.set ?_ (by first | (simp; done) | (simp; omega)) _)))
  have hP2 := pairNew (w := W1) (bp := w4.heap.size) i3 hst hf hR4.2.2 hR4.1 hR4.2.1 hBA (Nat.le_refl _) (heap_alloc_new w4 _)
  have hBB : Below (w4.alloc (.cells #[.pointer (some ⟨p2, 0, none⟩), .pointer (some ⟨q2, 0, none⟩)] 57)).heap.size (w4.alloc (.cells #[.pointer (some ⟨p2, 0, none⟩), .pointer (some ⟨q2, 0, none⟩)] 57)) ((w4.alloc (.cells #[.pointer (some ⟨p2, 0, none⟩), .pointer (some ⟨q2, 0, none⟩)] 57)).alloc (.cells #[.slice none 0 0, .slice none 0 0, .slice none 0 0, .slice none 0 0] 43)) := (by repeat (first | exact Below.refl _ _ | assumption | with_reducible refine below_drewN ?_ _ | refine Gr.ext ?_ _ | refine Gr.alloc ?_ _ | refine Gr.drew ?_ | (refine Gr.set ?_ (by first | (simp; done) | (simp; omega)) _)))
  have hBk := BookAt.new (w4.alloc (.cells #[.pointer (some ⟨p2, 0, none⟩), .pointer (some ⟨q2, 0, none⟩)] 57))
  have hsz : (w4.alloc (.cells #[.pointer (some ⟨p2, 0, none⟩), .pointer (some ⟨q2, 0, none⟩)] 57)).heap.size = w4.heap.size + 1 := by simp
  rw [hsz] at hBk
  have hT : Below W1.heap.size W1 ((w4.alloc (.cells #[.pointer (some ⟨p2, 0, none⟩), .pointer (some ⟨q2, 0, none⟩)] 57)).alloc (.cells #[.slice none 0 0, .slice none 0 0, .slice none 0 0, .slice none 0 0] 43)) := hB4.trans ((hBA.trans (hBB.mono (by omega))).mono (by omega))
  have hk : ∀ x, footBk (w4.heap.size + 1) (.slice none 0 0) (.slice none 0 0) [] [] x → x = w4.heap.size + 1 := fun x hx => by
    rcases hx with h | h | h
    · exact h
    · exact absurd h (foot_nil x)
    · exact absurd h (foot_nil x)
  refine ⟨hBW.trans (hT.mono iw), _, _, _, (hP1.1.grown hT).isIn, (hP2.1.grown hBB).isIn, hBk.isIn, fun x hx hy => ?_, fun x hx hy => ?_, fun x hx hy => ?_, fun x hx => ?_⟩
  · have h1 := hP1.1.foot_lt hx
    have h2 := hP2.2 x hy
    omega
  · have h1 := hP1.1.foot_lt hx
    have h2 := hk x hy
    omega
  · have h1 := hP2.1.foot_lt hx
    have h2 := hk x hy
    omega
  · rcases hx with h | h | h
    · exact hP1.2 x h
    · have := hP2.2 x h; omega
    · have := hk x h; omega
theorem AskV.off {w : World} {b p : Nat} {r : AskV} (h : w.rangeAt b p r.cells) :
    w.cell? ⟨b, p, none⟩ = some (.int .i64 r.kind) ∧ w.cell? ⟨b, p + 1, none⟩ = some (.slice r.ca r.cs.length r.cc) ∧ w.cell? ⟨b, p + 2, none⟩ = some (.string r.fr) ∧ w.cell? ⟨b, p + 3, none⟩ = some (.string r.to) ∧ w.cell? ⟨b, p + 4, none⟩ = some (.int .i64 r.rev) ∧ w.cell? ⟨b, p + 5, none⟩ = some (.int .i64 r.most) ∧ w.cell? ⟨b, p + 6, none⟩ = some (.string r.t) :=
  ⟨h 0 _ rfl, h 1 _ rfl, h 2 _ rfl, h 3 _ rfl, h 4 _ rfl, h 5 _ rfl, h 6 _ rfl⟩
theorem AskV.at_reads {w : World} {a : Option Addr} {n cap : Nat} {rs : List AskV} (h : w.reads 7 (.slice a n cap) (rs.map AskV.cells)) {k : Nat} (hk : k < rs.length) : ∃ g o, a = some ⟨g, o, none⟩ ∧ g < w.heap.size ∧ w.rangeAt g (o + k * 7) rs[k].cells := by
  rcases h with ⟨_, h2⟩ | ⟨g, off, cap', hv, hg, hc⟩
  · have : rs = [] := by simpa using h2
    subst this; simp at hk
  · injection hv with h1 h2 h3
    exact ⟨g, off, h1, hg, (hc k rs[k].cells (by rw [List.getElem?_map, List.getElem?_eq_getElem hk]; rfl)).2⟩
set_option maxRecDepth 100000 in
set_option maxHeartbeats 8000000 in
theorem lawStores (w : World) (a1 a2 : Option Addr) (cap1 cap2 : Nat) (l1 l2 : List AskV) (hr1 : l1 ≠ [] → w.reads 7 (.slice a1 l1.length cap1) (l1.map AskV.cells)) (hr2 : l2 ≠ [] → w.reads 7 (.slice a2 l2.length cap2) (l2.map AskV.cells)) (hk1 : ∀ x ∈ l1, x.ok w) (hk2 : ∀ x ∈ l2, x.ok w) (hn1 : l1.length ≤ 1048576) (hn2 : l2.length ≤ 1048576) :
    Calls Try.prog 6 #[.slice a1 l1.length cap1, .slice a2 l2.length cap2] w fun e w' => e = .returned (.bool true) ∧ Below w.heap.size w w' := by
  have HR1 : Hid (l1 ≠ [] → w.reads 7 (.slice a1 l1.length cap1) (l1.map AskV.cells)) := hr1
  have HR2 : Hid (l2 ≠ [] → w.reads 7 (.slice a2 l2.length cap2) (l2.map AskV.cells)) := hr2
  have HK1 : Hid (∀ x ∈ l1, x.ok w) := hk1
  have HK2 : Hid (∀ x ∈ l2, x.ok w) := hk2
  clear hr1 hr2 hk1 hk2
  go_enter Try.func6, Try.ntmps6
  go_wp2_with fail
  refine (storeNew _).mono ?_
  rintro e w1 ⟨p1, b1, D1, rfl, hst1, hf1, hb1⟩
  have HS1 : Hid (StoreAt w1 p1 b1 D1 St.empty) := hst1
  have HF1 : Hid (∀ x, footS p1 b1 D1 x → w.heap.size ≤ x) := hf1
  have HB1 : Hid (Below w.heap.size w w1) := hb1
  clear hst1 hf1 hb1
  go_wp2_with fail
  refine (refNew _).mono ?_
  rintro e w2 ⟨q1, rfl, hr1, hq1, hb2⟩
  have HQ2 : Hid (RefAt w2 q1 nilS St.empty [] ∧ w1.heap.size ≤ q1 ∧ Below w1.heap.size w1 w2) := ⟨hr1, hq1, hb2⟩
  clear hr1 hq1 hb2
  go_wp2_with fail
  have HP1' : Hid (PairAt (w2.alloc (.cells #[.pointer (some ⟨p1, 0, none⟩), .pointer (some ⟨q1, 0, none⟩)] 57)) w2.heap.size p1 b1 D1 q1 nilS [] St.empty ∧ ∀ x, footP w2.heap.size p1 b1 D1 q1 nilS x → w.heap.size ≤ x) := pairNew HB1.out.size HS1.out HF1.out HQ2.out.2.2 HQ2.out.1 HQ2.out.2.1 (by repeat (first | exact Below.refl _ _ | assumption | with_reducible refine below_drewN ?_ _ | refine Gr.ext ?_ _ | refine Gr.alloc ?_ _ | refine Gr.drew ?_ | (refine Gr.set ?_ (by first | (simp; done) | (simp; omega)) _))) (Nat.le_refl _) (heap_alloc_new _ _)
  have HBW' : Hid (Below w.heap.size w (w2.alloc (.cells #[.pointer (some ⟨p1, 0, none⟩), .pointer (some ⟨q1, 0, none⟩)] 57))) := below_via (below_via ((by repeat (first | exact Below.refl _ _ | assumption | with_reducible refine below_drewN ?_ _ | refine Gr.ext ?_ _ | refine Gr.alloc ?_ _ | refine Gr.drew ?_ | (refine Gr.set ?_ (by first | (simp; done) | (simp; omega)) _))) : Below w2.heap.size w2 (w2.alloc (.cells #[.pointer (some ⟨p1, 0, none⟩), .pointer (some ⟨q1, 0, none⟩)] 57))) HQ2.out.2.2) HB1.out
  have hbp1' : w2.heap.size < (w2.alloc (.cells #[.pointer (some ⟨p1, 0, none⟩), .pointer (some ⟨q1, 0, none⟩)] 57)).heap.size := by simp
  generalize w2.alloc (.cells #[.pointer (some ⟨p1, 0, none⟩), .pointer (some ⟨q1, 0, none⟩)] 57) = W1 at HP1' HBW' hbp1' ⊢
  generalize w2.heap.size = bp at HP1' hbp1' ⊢
  have HP1 : Hid (PairAt W1 bp p1 b1 D1 q1 nilS [] St.empty ∧ ∀ x, footP bp p1 b1 D1 q1 nilS x → w.heap.size ≤ x) := HP1'
  have HBW : Hid (Below w.heap.size w W1) := HBW'
  clear HP1' HBW'
  refine (storeNew _).mono ?_
  rintro e w3 ⟨p2, b2, D2, rfl, hst3, hf3, hb3⟩
  have HS3 : Hid (StoreAt w3 p2 b2 D2 St.empty) := hst3
  have HF3 : Hid (∀ x, footS p2 b2 D2 x → W1.heap.size ≤ x) := hf3
  have HB3 : Hid (Below W1.heap.size W1 w3) := hb3
  clear hst3 hf3 hb3
  go_wp2_with fail
  refine (refNew _).mono ?_
  rintro e w4 ⟨q2, rfl, hr4, hq4, hb4⟩
  have HR4 : Hid (RefAt w4 q2 nilS St.empty [] ∧ w3.heap.size ≤ q2 ∧ Below w3.heap.size w3 w4) := ⟨hr4, hq4, hb4⟩
  have HB4 : Hid (Below W1.heap.size W1 w4) := HB3.out.trans (hb4.mono HB3.out.size)
  obtain ⟨c0, c1, cf⟩ := pair_cells (HP1.out.1.grown HB4.out).blk
  have hbp4 : bp < w4.heap.size := by have := HB4.out.size; omega
  clear hr4 hq4 hb4
  go_wp2_with fail
  refine world_any (F := fun W => TwoS2 w W bp w4.heap.size (w4.heap.size + 1) 0) (twoNew HBW.out HP1.out HS3.out HF3.out HB3.out HR4.out) ?_
  intro w5 hT5
  generalize w4.heap.size + 1 = kb at hT5 ⊢
  generalize w4.heap.size = bq at hT5 ⊢
  have HT5 : Hid (TwoS2 w w5 bp bq kb (8 * 0)) := hT5
  clear hT5 c0 c1 cf
  go_loopw [8] (fun iv wr => ∃ k : Nat, k ≤ 1048576 ∧ iv = .int .i64 k ∧ Hid (TwoS2 w wr bp bq kb (8 * k))) (fun iv _ => 1048576 - (intOf iv).toNat)
  case atStart => exact ⟨0, by omega, rfl, HT5⟩
  case round =>
    clear HT5
    obtain ⟨k, hk, rfl, HT⟩ := hrel
    by_cases h1 : k < l1.length
    · by_cases h2 : k < l2.length
      · have h1' : (k : Int) < l1.length := by omega
        have h2' : (k : Int) < l2.length := by omega
        have h1ne : l1 ≠ [] := fun e => by rw [e] at h1; simp at h1
        have h1r := (HR1.out h1ne).keep fun x hx => HT.out.below.block x (reads_lt (HR1.out h1ne) hx)
        obtain ⟨h1g, h1o, h1a, h1gl, h1v⟩ := AskV.at_reads h1r h1
        subst h1a
        obtain ⟨h10, h11, h12, h13, h14, h15, h16⟩ := AskV.off h1v
        have h1X : Hid ((l1[k]).ok w) := HK1.out _ (List.getElem_mem h1)
        clear h1v h1r h1ne
        generalize l1[k] = x1 at h10 h11 h12 h13 h14 h15 h16 h1X
        have h1C : Hid (∀ W, Below wr.heap.size wr W → Calls Try.prog 27 #[.pointer (some ⟨bp, 0, none⟩), .agg #[.int .i64 x1.kind, .slice x1.ca x1.cs.length x1.cc, .string x1.fr, .string x1.to, .int .i64 x1.rev, .int .i64 x1.most, .string x1.t], .pointer (some ⟨kb, 0, none⟩)] W fun e w' => e = .returned (.bool true) ∧ TwoS2 w w' bp bq kb (8 * k + 4)) := fun W hW => (HT.out.act (by omega) x1 h1X.out W hW)
        go_wp2_with fail
        refine (h1C.out _ (by repeat (first | exact Below.refl _ _ | assumption | with_reducible refine below_drewN ?_ _ | refine Gr.ext ?_ _ | refine Gr.alloc ?_ _ | refine Gr.drew ?_ | (refine Gr.set ?_ (by first | (simp; done) | (simp; omega)) _)))).mono ?_
        rintro e w6 ⟨rfl, h1T⟩
        have HT6 : Hid (TwoS2 w w6 bp bq kb (8 * k + 4)) := h1T
        clear h1T h1C h10 h11 h12 h13 h14 h15 h16 h1X
        have h2ne : l2 ≠ [] := fun e => by rw [e] at h2; simp at h2
        have h2r := (HR2.out h2ne).keep fun x hx => HT6.out.below.block x (reads_lt (HR2.out h2ne) hx)
        obtain ⟨h2g, h2o, h2a, h2gl, h2v⟩ := AskV.at_reads h2r h2
        subst h2a
        obtain ⟨h20, h21, h22, h23, h24, h25, h26⟩ := AskV.off h2v
        have h2X : Hid ((l2[k]).ok w) := HK2.out _ (List.getElem_mem h2)
        clear h2v h2r h2ne
        generalize l2[k] = x2 at h20 h21 h22 h23 h24 h25 h26 h2X
        have h2C : Hid (∀ W, Below w6.heap.size w6 W → Calls Try.prog 27 #[.pointer (some ⟨bq, 0, none⟩), .agg #[.int .i64 x2.kind, .slice x2.ca x2.cs.length x2.cc, .string x2.fr, .string x2.to, .int .i64 x2.rev, .int .i64 x2.most, .string x2.t], .pointer (some ⟨kb, 0, none⟩)] W fun e w' => e = .returned (.bool true) ∧ TwoS2 w w' bp bq kb (8 * k + 4 + 4)) := fun W hW => (HT6.out.swap.act (by omega) x2 h2X.out W hW).mono fun e w' h => ⟨h.1, h.2.swap⟩
        go_wp2_with fail
        refine (h2C.out _ (by repeat (first | exact Below.refl _ _ | assumption | with_reducible refine below_drewN ?_ _ | refine Gr.ext ?_ _ | refine Gr.alloc ?_ _ | refine Gr.drew ?_ | (refine Gr.set ?_ (by first | (simp; done) | (simp; omega)) _)))).mono ?_
        rintro e w7 ⟨rfl, h2T⟩
        have HT7 : Hid (TwoS2 w w7 bp bq kb (8 * k + 4 + 4)) := h2T
        clear h2T h2C h20 h21 h22 h23 h24 h25 h26 h2X
        have HL : Hid (∀ W, Below w7.heap.size w7 W → Calls Try.prog 22 #[.pointer (some ⟨kb, 0, none⟩)] W fun e w' => e = .returned (.bool true) ∧ TwoS2 w w' bp bq kb (8 * k + 4 + 4)) := fun W hW => HT7.out.looks (by omega) W hW
        go_wp2_with fail
        refine (HL.out _ (by repeat (first | exact Below.refl _ _ | assumption | with_reducible refine below_drewN ?_ _ | refine Gr.ext ?_ _ | refine Gr.alloc ?_ _ | refine Gr.drew ?_ | (refine Gr.set ?_ (by first | (simp; done) | (simp; omega)) _)))).mono ?_
        rintro e w9 ⟨rfl, hT9⟩
        have HT9 : Hid (TwoS2 w w9 bp bq kb (8 * (k + 1))) := hT9.up (by omega)
        clear hT9 HL
        go_wp2_with fail
        exact ⟨⟨k + 1, by omega, val_int (by omega), HT9⟩, by simp [intOf]; omega⟩
      · have h1' : (k : Int) < l1.length := by omega
        have h2' : ¬ (k : Int) < l2.length := by omega
        have h1ne : l1 ≠ [] := fun e => by rw [e] at h1; simp at h1
        have h1r := (HR1.out h1ne).keep fun x hx => HT.out.below.block x (reads_lt (HR1.out h1ne) hx)
        obtain ⟨h1g, h1o, h1a, h1gl, h1v⟩ := AskV.at_reads h1r h1
        subst h1a
        obtain ⟨h10, h11, h12, h13, h14, h15, h16⟩ := AskV.off h1v
        have h1X : Hid ((l1[k]).ok w) := HK1.out _ (List.getElem_mem h1)
        clear h1v h1r h1ne
        generalize l1[k] = x1 at h10 h11 h12 h13 h14 h15 h16 h1X
        have h1C : Hid (∀ W, Below wr.heap.size wr W → Calls Try.prog 27 #[.pointer (some ⟨bp, 0, none⟩), .agg #[.int .i64 x1.kind, .slice x1.ca x1.cs.length x1.cc, .string x1.fr, .string x1.to, .int .i64 x1.rev, .int .i64 x1.most, .string x1.t], .pointer (some ⟨kb, 0, none⟩)] W fun e w' => e = .returned (.bool true) ∧ TwoS2 w w' bp bq kb (8 * k + 4)) := fun W hW => (HT.out.act (by omega) x1 h1X.out W hW)
        go_wp2_with fail
        refine (h1C.out _ (by repeat (first | exact Below.refl _ _ | assumption | with_reducible refine below_drewN ?_ _ | refine Gr.ext ?_ _ | refine Gr.alloc ?_ _ | refine Gr.drew ?_ | (refine Gr.set ?_ (by first | (simp; done) | (simp; omega)) _)))).mono ?_
        rintro e w6 ⟨rfl, h1T⟩
        have HT6 : Hid (TwoS2 w w6 bp bq kb (8 * k + 4)) := h1T
        clear h1T h1C h10 h11 h12 h13 h14 h15 h16 h1X
        have HL : Hid (∀ W, Below w6.heap.size w6 W → Calls Try.prog 22 #[.pointer (some ⟨kb, 0, none⟩)] W fun e w' => e = .returned (.bool true) ∧ TwoS2 w w' bp bq kb (8 * k + 4)) := fun W hW => HT6.out.looks (by omega) W hW
        go_wp2_with fail
        refine (HL.out _ (by repeat (first | exact Below.refl _ _ | assumption | with_reducible refine below_drewN ?_ _ | refine Gr.ext ?_ _ | refine Gr.alloc ?_ _ | refine Gr.drew ?_ | (refine Gr.set ?_ (by first | (simp; done) | (simp; omega)) _)))).mono ?_
        rintro e w9 ⟨rfl, hT9⟩
        have HT9 : Hid (TwoS2 w w9 bp bq kb (8 * (k + 1))) := hT9.up (by omega)
        clear hT9 HL
        go_wp2_with fail
        exact ⟨⟨k + 1, by omega, val_int (by omega), HT9⟩, by simp [intOf]; omega⟩
    · by_cases h2 : k < l2.length
      · have h1' : ¬ (k : Int) < l1.length := by omega
        have h2' : (k : Int) < l2.length := by omega
        have h2ne : l2 ≠ [] := fun e => by rw [e] at h2; simp at h2
        have h2r := (HR2.out h2ne).keep fun x hx => HT.out.below.block x (reads_lt (HR2.out h2ne) hx)
        obtain ⟨h2g, h2o, h2a, h2gl, h2v⟩ := AskV.at_reads h2r h2
        subst h2a
        obtain ⟨h20, h21, h22, h23, h24, h25, h26⟩ := AskV.off h2v
        have h2X : Hid ((l2[k]).ok w) := HK2.out _ (List.getElem_mem h2)
        clear h2v h2r h2ne
        generalize l2[k] = x2 at h20 h21 h22 h23 h24 h25 h26 h2X
        have h2C : Hid (∀ W, Below wr.heap.size wr W → Calls Try.prog 27 #[.pointer (some ⟨bq, 0, none⟩), .agg #[.int .i64 x2.kind, .slice x2.ca x2.cs.length x2.cc, .string x2.fr, .string x2.to, .int .i64 x2.rev, .int .i64 x2.most, .string x2.t], .pointer (some ⟨kb, 0, none⟩)] W fun e w' => e = .returned (.bool true) ∧ TwoS2 w w' bp bq kb (8 * k + 4)) := fun W hW => (HT.out.swap.act (by omega) x2 h2X.out W hW).mono fun e w' h => ⟨h.1, h.2.swap⟩
        go_wp2_with fail
        refine (h2C.out _ (by repeat (first | exact Below.refl _ _ | assumption | with_reducible refine below_drewN ?_ _ | refine Gr.ext ?_ _ | refine Gr.alloc ?_ _ | refine Gr.drew ?_ | (refine Gr.set ?_ (by first | (simp; done) | (simp; omega)) _)))).mono ?_
        rintro e w7 ⟨rfl, h2T⟩
        have HT7 : Hid (TwoS2 w w7 bp bq kb (8 * k + 4)) := h2T
        clear h2T h2C h20 h21 h22 h23 h24 h25 h26 h2X
        have HL : Hid (∀ W, Below w7.heap.size w7 W → Calls Try.prog 22 #[.pointer (some ⟨kb, 0, none⟩)] W fun e w' => e = .returned (.bool true) ∧ TwoS2 w w' bp bq kb (8 * k + 4)) := fun W hW => HT7.out.looks (by omega) W hW
        go_wp2_with fail
        refine (HL.out _ (by repeat (first | exact Below.refl _ _ | assumption | with_reducible refine below_drewN ?_ _ | refine Gr.ext ?_ _ | refine Gr.alloc ?_ _ | refine Gr.drew ?_ | (refine Gr.set ?_ (by first | (simp; done) | (simp; omega)) _)))).mono ?_
        rintro e w9 ⟨rfl, hT9⟩
        have HT9 : Hid (TwoS2 w w9 bp bq kb (8 * (k + 1))) := hT9.up (by omega)
        clear hT9 HL
        go_wp2_with fail
        exact ⟨⟨k + 1, by omega, val_int (by omega), HT9⟩, by simp [intOf]; omega⟩
      · have h1' : ¬ (k : Int) < l1.length := by omega
        have h2' : ¬ (k : Int) < l2.length := by omega
        have s1C : Hid (∀ W, Below wr.heap.size wr W → Calls Try.prog 27 #[.pointer (some ⟨bp, 0, none⟩), .agg #[.int .i64 4, .slice none 0 0, .string ⟨#[]⟩, .string ⟨#[]⟩, .int .i64 0, .int .i64 0, .string ⟨#[]⟩], .pointer (some ⟨kb, 0, none⟩)] W fun e w' => e = .returned (.bool true) ∧ TwoS2 w w' bp bq kb (8 * k + 4)) := fun W hW => (HT.out.act (by omega) ⟨4, none, 0, [], ⟨#[]⟩, ⟨#[]⟩, 0, 0, ⟨#[]⟩⟩ ⟨fun h => absurd rfl h, by simp, by simp [ByteArray.size], by simp⟩ W hW)
        go_wp2_with fail
        refine (s1C.out _ (by repeat (first | exact Below.refl _ _ | assumption | with_reducible refine below_drewN ?_ _ | refine Gr.ext ?_ _ | refine Gr.alloc ?_ _ | refine Gr.drew ?_ | (refine Gr.set ?_ (by first | (simp; done) | (simp; omega)) _)))).mono ?_
        rintro e w6 ⟨rfl, s1T⟩
        have HT6 : Hid (TwoS2 w w6 bp bq kb (8 * k + 4)) := s1T
        clear s1T s1C
        have s2C : Hid (∀ W, Below w6.heap.size w6 W → Calls Try.prog 27 #[.pointer (some ⟨bq, 0, none⟩), .agg #[.int .i64 4, .slice none 0 0, .string ⟨#[]⟩, .string ⟨#[]⟩, .int .i64 0, .int .i64 0, .string ⟨#[]⟩], .pointer (some ⟨kb, 0, none⟩)] W fun e w' => e = .returned (.bool true) ∧ TwoS2 w w' bp bq kb (8 * k + 4 + 4)) := fun W hW => (HT6.out.swap.act (by omega) ⟨4, none, 0, [], ⟨#[]⟩, ⟨#[]⟩, 0, 0, ⟨#[]⟩⟩ ⟨fun h => absurd rfl h, by simp, by simp [ByteArray.size], by simp⟩ W hW).mono fun e w' h => ⟨h.1, h.2.swap⟩
        go_wp2_with fail
        refine (s2C.out _ (by repeat (first | exact Below.refl _ _ | assumption | with_reducible refine below_drewN ?_ _ | refine Gr.ext ?_ _ | refine Gr.alloc ?_ _ | refine Gr.drew ?_ | (refine Gr.set ?_ (by first | (simp; done) | (simp; omega)) _)))).mono ?_
        rintro e w7 ⟨rfl, s2T⟩
        have HT7 : Hid (TwoS2 w w7 bp bq kb (8 * k + 4 + 4)) := s2T
        clear s2T s2C
        go_wp2_with fail
        exact bodyPost_ret (v := .bool true) (by simp [results, Try.results6, go_sem]) rfl ⟨rfl, HT7.out.below⟩
end Go.Proofs.Ytcbbnmodjnnbeaa
