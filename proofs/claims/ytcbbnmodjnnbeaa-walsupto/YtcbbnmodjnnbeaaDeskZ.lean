/- The law on journals: the book with its entries. -/
import Derived.Test.YtcbbnmodjnnbeaaOwnEty
import Derived.Test.YtcbbnmodjnnbeaaScans
import Derived.Test.YtcbbnmodjnnbeaaLite
import Derived.Test.YtcbbnmodjnnbeaaWalM
import Derived.BigQuiet
import Derived.Test.YtcbbnmodjnnbeaaDeskY
set_option linter.unusedSimpArgs false
set_option linter.unusedVariables false
namespace Go.Proofs.Ytcbbnmodjnnbeaa
open Go.RowKit

structure BkAt (w : World) (kb : Nat) (vE : Value) (eE : List Ent) (n : Nat) : Prop where
  blk : w.heap[kb]? = some (.cells #[.slice none 0 0, .slice none 0 0, vE, .slice none 0 0] 43)
  hE : Outs w 133 8 mkEty kb vE eE
  nE : eE.length ≤ n
  bE : ∀ y ∈ eE, y.n ≤ 200000000 ∧ y.k ≤ n
/-- The book stands on F. -/
structure BkIn (w : World) (kb : Nat) (F : Nat → Prop) (n : Nat) : Prop where
  lt : ∀ x, F x → x < w.heap.size
  kF : F kb
  is : ∃ vE eE, BkAt w kb vE eE n ∧ ∀ x, footE vE eE x → F x
section
variable {w w' : World} {kb n : Nat} {F : Nat → Prop}
theorem BkIn.beside {S : Nat → Prop} (h : BkIn w kb F n) (ht : w.turned w' S) (hn : ∀ x, F x → ¬ S x) : BkIn w' kb F n := by
  obtain ⟨vE, eE, a, b⟩ := h.is
  exact ⟨fun x hx => Nat.lt_of_lt_of_le (h.lt x hx) ht.size, h.kF, vE, eE, ⟨(ht.block kb (h.lt kb h.kF) (hn kb h.kF)).trans a.blk, a.hE.turned ht fun x hx => hn x (b x hx), a.nE, a.bE⟩, b⟩
theorem BkIn.up {m : Nat} (h : BkIn w kb F n) (hm : n ≤ m) : BkIn w kb F m := by
  obtain ⟨vE, eE, a, b⟩ := h.is
  exact ⟨h.lt, h.kF, vE, eE, ⟨a.blk, a.hE, Nat.le_trans a.nE hm, fun y hy => ⟨(a.bE y hy).1, Nat.le_trans (a.bE y hy).2 hm⟩⟩, b⟩
end
theorem bkNew {w : World} {kb : Nat} (hb : w.heap[kb]? = some (.cells #[.slice none 0 0, .slice none 0 0, .slice none 0 0, .slice none 0 0] 43)) : BkIn w kb (fun x => x = kb) 0 :=
  ⟨fun x hx => by rw [hx]; exact (Array.getElem?_eq_some_iff.1 hb).1, rfl, .slice none 0 0, [], ⟨hb, Outs.nil _ _ _ _ _, Nat.le_refl _, fun y hy => by cases hy⟩, fun x hx => absurd hx (foot_nil x)⟩
theorem bkOwn (w : World) (kb n : Nat) (F : Nat → Prop) (h : BkIn w kb F n) (al : Option Addr) (cap : Nat) (cs : List (List Value))
    (hl : w.ownL 135 8 (.slice al cs.length cap) cs) (hsep : ∀ k, (Value.slice al cs.length cap).ownBlock = some k → ¬ F k) (hc : cs.length ≤ 100000000) (hn : n ≤ 900000000) :
    Calls Try.prog 137 #[.pointer (some ⟨kb, 0, none⟩), .slice al cs.length cap] w fun e w' => e = .returned (.tuple #[]) ∧ ∃ F', BkIn w' kb F' (n + 4) ∧ (∀ x, F' x → F x ∨ (Value.slice al cs.length cap).ownBlock = some x ∨ w.heap.size ≤ x) ∧ w.turned w' (fun x => F x ∨ (Value.slice al cs.length cap).ownBlock = some x) := by
  obtain ⟨vE, eE, a, b⟩ := h.is
  refine (ownEntries w kb (.slice none 0 0) (.slice none 0 0) (.slice none 0 0) vE eE al cap cs a.blk a.hE hl (fun k hk => ⟨fun e => hsep k hk (e ▸ h.kF), fun e => hsep k hk (b k e)⟩) (by omega) (by have := a.nE; omega)).mono ?_
  rintro e w' ⟨rfl, vb, new, hbk, hO, hnl, hny, hf, ht⟩
  refine ⟨rfl, fun x => x = kb ∨ footE vb (eE ++ new) x, ⟨fun x hx => ?_, .inl rfl, vb, eE ++ new, ⟨hbk, hO, by rw [List.length_append]; have := a.nE; omega, fun y hy => ?_⟩, fun x hx => .inr hx⟩, fun x hx => ?_, ht.mono fun x _ hx => ?_⟩
  · rcases hx with rfl | hx
    · exact (Array.getElem?_eq_some_iff.1 hbk).1
    · exact hO.foot_lt hx
  · rcases List.mem_append.1 hy with hy | hy
    · exact ⟨(a.bE y hy).1, by have := (a.bE y hy).2; omega⟩
    · have := hny y hy; have := a.nE; omega
  · rcases hx with rfl | hx
    · exact .inl h.kF
    · exact (hf x hx).imp (b x) id
  · rcases hx with rfl | hx | hx
    · exact .inl h.kF
    · exact .inl (b x (.inl hx))
    · exact .inr hx
theorem bkLooks (w : World) (kb n : Nat) (F : Nat → Prop) (h : BkIn w kb F n) (hn : n ≤ 900000000) :
    Calls Try.prog 22 #[.pointer (some ⟨kb, 0, none⟩)] w fun e w' => e = .returned (.bool true) ∧ Below w.heap.size w w' := by
  obtain ⟨vE, eE, a, _⟩ := h.is
  exact lawLooks w kb (.slice none 0 0) (.slice none 0 0) vE (.slice none 0 0) [] [] eE [] a.blk (Outs.nil _ _ _ _ _) (by simp) (by intro y hy; cases hy) (Outs.nil _ _ _ _ _) (by simp) (by intro y hy; cases hy) a.hE (by have := a.nE; omega) (fun y hy => by have := a.bE y hy; omega) (Outs.nil _ _ _ _ _) (by simp) (by intro y hy; cases hy)
end Go.Proofs.Ytcbbnmodjnnbeaa
/- The law's lists of records and entries: lent, spoilt; entries and states held against each other. -/
set_option linter.unusedSimpArgs false
set_option linter.unusedVariables false
namespace Go.Proofs.Ytcbbnmodjnnbeaa
open Go.RowKit

def mkRx (n : Int) : Rec := ⟨n, 0, 0, 0, 0, 0, Cmd.zero, ⟨#[]⟩⟩
def mkEx (n : Int) : Ety := ⟨n, Cmd.zero⟩
abbrev zRec : List Value := [.int .i64 0, .int .i64 0, .int .i64 0, .int .i64 0, .int .i64 0, .int .i64 0, .int .i64 0, .string ⟨#[]⟩, .string ⟨#[]⟩, .string ⟨#[]⟩, .int .i64 0, .int .i64 0, .int .i64 0, .string ⟨#[]⟩]
abbrev zEty : List Value := [.int .i64 0, .int .i64 0, .string ⟨#[]⟩, .string ⟨#[]⟩, .string ⟨#[]⟩, .int .i64 0, .int .i64 0, .int .i64 0]
theorem recx_one (c : Rec) : ∀ u ∈ c.cells, u.oneCell' = true := by
  intro u hu
  simp only [Rec.cells, Cmd.cells, List.mem_cons, List.mem_append, List.not_mem_nil, or_false, List.cons_append, List.nil_append] at hu
  rcases hu with rfl | rfl | rfl | rfl | rfl | rfl | rfl | rfl | rfl | rfl | rfl | rfl | rfl | rfl <;> rfl
theorem etyx_one (c : Ety) : ∀ u ∈ c.cells, u.oneCell' = true := ety_one [c] _ (List.mem_singleton.2 rfl)
set_option maxRecDepth 100000 in
set_option maxHeartbeats 2000000 in
theorem lawLentR (w : World) (a : Option Addr) (cap : Nat) (l : List Rec) (hr : l ≠ [] → w.reads 14 (.slice a l.length cap) (l.map Rec.cells)) (hn : l.length ≤ 1048576) :
    Calls Try.prog 130 #[.slice a l.length cap] w fun e w' => ∃ g, e = .returned (.slice (some ⟨g, 0, none⟩) (l.length + 8) (l.length + 8)) ∧ w.heap.size ≤ g ∧ w'.ownL 25 14 (.slice (some ⟨g, 0, none⟩) (l.length + 8) (l.length + 8)) ((l ++ List.replicate 8 (mkRx (-77))).map Rec.cells) ∧ Below w.heap.size w w' := by
  have HN : Hid (l.length ≤ 1048576) := hn
  go_enter Try.func130, Try.ntmps130
  go_wp2_with (at_make; refine Held.out ?_)
  unfold Held
  obtain ⟨i0, hi0, hz0, hsz0, hby0⟩ := info_parts infoR
  refine wpList_make_full _ rfl _ _ 33 rfl 0 25 i0 _ 14 Try.underlying33 hi0 hz0 hsz0 .i64 .i64 _ _ (l.length + 8) rfl rfl (by omega) (by omega) (by rw [hby0]; omega) (by unfold maxLen; omega) (Nat.zero_le _) ?_
  intro w2 ho2 hg2
  have ho2' : w2.ownL 25 14 (.slice (some ⟨w.heap.size, 0, none⟩) (l.length + 8) (l.length + 8)) (List.replicate (l.length + 8) zRec) := made_ownL (z := #[.int .i64 0, .int .i64 0, .int .i64 0, .int .i64 0, .int .i64 0, .int .i64 0, .int .i64 0, .string ⟨#[]⟩, .string ⟨#[]⟩, .string ⟨#[]⟩, .int .i64 0, .int .i64 0, .int .i64 0, .string ⟨#[]⟩]) (by decide) ho2
  have hB2 : Below w.heap.size w w2 := Below.grown (Below.refl _ _) hg2 (Nat.le_refl _) (by simp)
  clear ho2
  obtain ⟨g, hg0⟩ : ∃ g, w.heap.size = g := ⟨_, rfl⟩
  have HG : Hid (w.heap.size ≤ g) := by show _ ≤ _; omega
  rw [hg0] at ho2' ⊢
  go_frame
  have hR2 : l.map Rec.cells ≠ [] → w2.reads 14 (.slice a l.length cap) (l.map Rec.cells) := fun hne => readsGrL (hr (fun e => hne (by rw [e]; rfl))) hB2
  have hrl : (List.replicate (l.length + 8) zRec).length = l.length + 8 := List.length_replicate
  go_wp2_with (refine wpL_copy rfl _ _ _ _ rfl 25 14 Try.underlying33 (by kernel_rfl) g (l.length + 8) (l.length + 8) a l.length cap rfl rfl 25 (List.replicate (l.length + 8) zRec) (l.map Rec.cells) hrl (List.length_map _) (by omega) ho2' hR2 ?z1 ?z2)
  case z1 =>
    intro x hx u hu
    obtain ⟨c, _, rfl⟩ := List.mem_map.1 hx
    exact recx_one c u hu
  intro w3 ho3 hg3
  have HO3 : Hid (w3.ownL 25 14 (.slice (some ⟨g, 0, none⟩) (l.length + 8) (l.length + 8)) (l.map Rec.cells ++ List.replicate 0 (mkRx (-77)).cells ++ List.replicate (8 - 0) zRec)) := by
    show World.ownL _ _ _ _ _
    rw [List.replicate_zero, List.append_nil]
    exact ho3
  have HB3 : Hid (Below w.heap.size w w3) := hB2.trans ⟨hg3.g.os, hg3.g.tape, hg3.g.output, hg3.g.size, fun k hk => hg3.g.block k (by have := hB2.size; omega) fun e => by cases e; have h2 : g < w.heap.size := hk; have := HG.out; omega⟩
  clear ho3 hg3 hB2 hg2 ho2' hR2 hrl hr hg0
  go_wp2_with fail
  go_loopw [4] (fun iv wr => ∃ j : Nat, j ≤ 8 ∧ iv = .int .i64 ((l.length + j : Nat) : Int) ∧ Hid (wr.ownL 25 14 (.slice (some ⟨g, 0, none⟩) (l.length + 8) (l.length + 8)) (l.map Rec.cells ++ List.replicate j (mkRx (-77)).cells ++ List.replicate (8 - j) zRec)) ∧ Hid (Below w.heap.size w wr)) (fun iv _ => l.length + 8 - (intOf iv).toNat)
  case atStart => exact ⟨0, by omega, rfl, HO3, HB3⟩
  case round =>
    clear HO3 HB3
    obtain ⟨j, hj, rfl, HO, HB⟩ := hrel
    by_cases hlt : j < 8
    · have hj1 : (j : Int) < 8 := by omega
      have ho1 := HO.out
      have hlen : l.length + j < (l.map Rec.cells ++ List.replicate j (mkRx (-77)).cells ++ List.replicate (8 - j) zRec).length := by simp; omega
      go_wp2_with (refine wpL_store rfl 25 _ _ rfl 25 14 _ _ ho1 (l.length + j) hlen g (l.length + 8) (l.length + 8) rfl _ rfl rfl #[.int .i64 (-77), .int .i64 0, .int .i64 0, .int .i64 0, .int .i64 0, .int .i64 0, .int .i64 0, .string ⟨#[]⟩, .string ⟨#[]⟩, .string ⟨#[]⟩, .int .i64 0, .int .i64 0, .int .i64 0, .string ⟨#[]⟩] rfl (by kernel_rfl) rfl (recx_one (mkRx (-77))) ?_; intro w4 ho4 hg4)
      have e := set_repL (l.map Rec.cells) (mkRx (-77)).cells zRec j 8 hlt
      rw [List.length_map] at e
      refine ⟨⟨j + 1, by omega, val_int (by omega), ?_, HB.out.trans ⟨hg4.g.os, hg4.g.tape, hg4.g.output, hg4.g.size, fun k hk => hg4.g.block k (by have := HB.out.size; omega) fun e => by cases e; have h2 : g < w.heap.size := hk; have := HG.out; omega⟩⟩, by simp [intOf]; omega⟩
      show World.ownL _ _ _ _ _
      rw [← e]; exact ho4
    · have hjj : j = 8 := by omega
      subst hjj
      go_wp2_with fail
      refine bodyPost_ret (v := .slice (some ⟨g, 0, none⟩) (l.length + 8) (l.length + 8)) (by simp [results, Try.results130, go_sem]) rfl ⟨g, rfl, HG.out, ?_, HB.out⟩
      have h := HO.out
      rw [Nat.sub_self, List.replicate_zero, List.append_nil] at h
      rw [List.map_append, List.map_replicate]; exact h
set_option maxRecDepth 100000 in
set_option maxHeartbeats 2000000 in
theorem lawSpoilR (w : World) (g n : Nat) (cs : List (List Value)) (hn : cs.length = n) (ho : w.ownL 25 14 (.slice (some ⟨g, 0, none⟩) n n) cs) (hn2 : n ≤ 10000000) :
    Calls Try.prog 132 #[.slice (some ⟨g, 0, none⟩) n n] w fun e w' => e = .returned (.tuple #[]) ∧ w.turned w' (fun x => x = g) := by
  go_enter Try.func132, Try.ntmps132
  go_wp2_with fail
  go_loopw [2] (fun iv wr => ∃ (i : Nat) (cs' : List (List Value)), i ≤ n ∧ cs'.length = n ∧ iv = .int .i64 i ∧ wr.ownL 25 14 (.slice (some ⟨g, 0, none⟩) n n) cs' ∧ w.turned wr (fun x => x = g)) (fun iv _ => n - (intOf iv).toNat)
  case atStart => exact ⟨0, cs, Nat.zero_le _, hn, rfl, ho, World.turned.refl _ _⟩
  case round =>
    obtain ⟨i, cs', hi, hl, rfl, ho1, ht1⟩ := hrel
    by_cases hlt : i < n
    · have hi1 : (i : Int) < n := by omega
      clear ho hn
      go_wp2_with (refine wpL_store rfl 25 _ _ rfl 25 14 _ _ ho1 i (by rw [hl]; exact hlt) g n n rfl _ rfl rfl #[.int .i64 (-99), .int .i64 0, .int .i64 0, .int .i64 0, .int .i64 0, .int .i64 0, .int .i64 0, .string ⟨#[]⟩, .string ⟨#[]⟩, .string ⟨#[]⟩, .int .i64 0, .int .i64 0, .int .i64 0, .string ⟨#[]⟩] rfl (by kernel_rfl) rfl (recx_one (mkRx (-99))) ?_; intro w2 ho2 hg2)
      exact ⟨⟨i + 1, _, by omega, by rw [List.length_set]; exact hl, val_int (by omega), ho2, ht1.grew hg2 (fun k _ hk => by cases hk; rfl)⟩, by simp [intOf]; omega⟩
    · have hii : i = n := by omega
      subst hii
      go_wp2_with fail
      go_end0
      exact ⟨rfl, ht1⟩
set_option maxRecDepth 100000 in
set_option maxHeartbeats 2000000 in
theorem lawLentE (w : World) (a : Option Addr) (cap : Nat) (l : List Ety) (hr : l ≠ [] → w.reads 8 (.slice a l.length cap) (l.map Ety.cells)) (hn : l.length ≤ 1048576) :
    Calls Try.prog 133 #[.slice a l.length cap] w fun e w' => ∃ g, e = .returned (.slice (some ⟨g, 0, none⟩) (l.length + 8) (l.length + 8)) ∧ w.heap.size ≤ g ∧ w'.ownL 135 8 (.slice (some ⟨g, 0, none⟩) (l.length + 8) (l.length + 8)) ((l ++ List.replicate 8 (mkEx (-77))).map Ety.cells) ∧ Below w.heap.size w w' := by
  have HN : Hid (l.length ≤ 1048576) := hn
  go_enter Try.func133, Try.ntmps133
  go_wp2_with (at_make; refine Held.out ?_)
  unfold Held
  obtain ⟨i0, hi0, hz0, hsz0, hby0⟩ := info_parts infoEtyL
  refine wpList_make_full _ rfl _ _ 88 rfl 0 135 i0 _ 8 Try.underlying88 hi0 hz0 hsz0 .i64 .i64 _ _ (l.length + 8) rfl rfl (by omega) (by omega) (by rw [hby0]; omega) (by unfold maxLen; omega) (Nat.zero_le _) ?_
  intro w2 ho2 hg2
  have ho2' : w2.ownL 135 8 (.slice (some ⟨w.heap.size, 0, none⟩) (l.length + 8) (l.length + 8)) (List.replicate (l.length + 8) zEty) := made_ownL (z := #[.int .i64 0, .int .i64 0, .string ⟨#[]⟩, .string ⟨#[]⟩, .string ⟨#[]⟩, .int .i64 0, .int .i64 0, .int .i64 0]) (by decide) ho2
  have hB2 : Below w.heap.size w w2 := Below.grown (Below.refl _ _) hg2 (Nat.le_refl _) (by simp)
  clear ho2
  obtain ⟨g, hg0⟩ : ∃ g, w.heap.size = g := ⟨_, rfl⟩
  have HG : Hid (w.heap.size ≤ g) := by show _ ≤ _; omega
  rw [hg0] at ho2' ⊢
  go_frame
  have hR2 : l.map Ety.cells ≠ [] → w2.reads 8 (.slice a l.length cap) (l.map Ety.cells) := fun hne => readsGrL (hr (fun e => hne (by rw [e]; rfl))) hB2
  have hrl : (List.replicate (l.length + 8) zEty).length = l.length + 8 := List.length_replicate
  go_wp2_with (refine wpL_copy rfl _ _ _ _ rfl 135 8 Try.underlying88 (by kernel_rfl) g (l.length + 8) (l.length + 8) a l.length cap rfl rfl 135 (List.replicate (l.length + 8) zEty) (l.map Ety.cells) hrl (List.length_map _) (by omega) ho2' hR2 ?z1 ?z2)
  case z1 =>
    intro x hx u hu
    obtain ⟨c, _, rfl⟩ := List.mem_map.1 hx
    exact etyx_one c u hu
  intro w3 ho3 hg3
  have HO3 : Hid (w3.ownL 135 8 (.slice (some ⟨g, 0, none⟩) (l.length + 8) (l.length + 8)) (l.map Ety.cells ++ List.replicate 0 (mkEx (-77)).cells ++ List.replicate (8 - 0) zEty)) := by
    show World.ownL _ _ _ _ _
    rw [List.replicate_zero, List.append_nil]
    exact ho3
  have HB3 : Hid (Below w.heap.size w w3) := hB2.trans ⟨hg3.g.os, hg3.g.tape, hg3.g.output, hg3.g.size, fun k hk => hg3.g.block k (by have := hB2.size; omega) fun e => by cases e; have h2 : g < w.heap.size := hk; have := HG.out; omega⟩
  clear ho3 hg3 hB2 hg2 ho2' hR2 hrl hr hg0
  go_wp2_with fail
  go_loopw [4] (fun iv wr => ∃ j : Nat, j ≤ 8 ∧ iv = .int .i64 ((l.length + j : Nat) : Int) ∧ Hid (wr.ownL 135 8 (.slice (some ⟨g, 0, none⟩) (l.length + 8) (l.length + 8)) (l.map Ety.cells ++ List.replicate j (mkEx (-77)).cells ++ List.replicate (8 - j) zEty)) ∧ Hid (Below w.heap.size w wr)) (fun iv _ => l.length + 8 - (intOf iv).toNat)
  case atStart => exact ⟨0, by omega, rfl, HO3, HB3⟩
  case round =>
    clear HO3 HB3
    obtain ⟨j, hj, rfl, HO, HB⟩ := hrel
    by_cases hlt : j < 8
    · have hj1 : (j : Int) < 8 := by omega
      have ho1 := HO.out
      have hlen : l.length + j < (l.map Ety.cells ++ List.replicate j (mkEx (-77)).cells ++ List.replicate (8 - j) zEty).length := by simp; omega
      go_wp2_with (refine wpL_store rfl 135 _ _ rfl 135 8 _ _ ho1 (l.length + j) hlen g (l.length + 8) (l.length + 8) rfl _ rfl rfl #[.int .i64 (-77), .int .i64 0, .string ⟨#[]⟩, .string ⟨#[]⟩, .string ⟨#[]⟩, .int .i64 0, .int .i64 0, .int .i64 0] rfl (by kernel_rfl) rfl (etyx_one (mkEx (-77))) ?_; intro w4 ho4 hg4)
      have e := set_repL (l.map Ety.cells) (mkEx (-77)).cells zEty j 8 hlt
      rw [List.length_map] at e
      refine ⟨⟨j + 1, by omega, val_int (by omega), ?_, HB.out.trans ⟨hg4.g.os, hg4.g.tape, hg4.g.output, hg4.g.size, fun k hk => hg4.g.block k (by have := HB.out.size; omega) fun e => by cases e; have h2 : g < w.heap.size := hk; have := HG.out; omega⟩⟩, by simp [intOf]; omega⟩
      show World.ownL _ _ _ _ _
      rw [← e]; exact ho4
    · have hjj : j = 8 := by omega
      subst hjj
      go_wp2_with fail
      refine bodyPost_ret (v := .slice (some ⟨g, 0, none⟩) (l.length + 8) (l.length + 8)) (by simp [results, Try.results133, go_sem]) rfl ⟨g, rfl, HG.out, ?_, HB.out⟩
      have h := HO.out
      rw [Nat.sub_self, List.replicate_zero, List.append_nil] at h
      rw [List.map_append, List.map_replicate]; exact h
set_option maxRecDepth 100000 in
set_option maxHeartbeats 2000000 in
theorem lawSpoilE (w : World) (g n : Nat) (cs : List (List Value)) (hn : cs.length = n) (ho : w.ownL 135 8 (.slice (some ⟨g, 0, none⟩) n n) cs) (hn2 : n ≤ 10000000) :
    Calls Try.prog 135 #[.slice (some ⟨g, 0, none⟩) n n] w fun e w' => e = .returned (.tuple #[]) ∧ w.turned w' (fun x => x = g) := by
  go_enter Try.func135, Try.ntmps135
  go_wp2_with fail
  go_loopw [2] (fun iv wr => ∃ (i : Nat) (cs' : List (List Value)), i ≤ n ∧ cs'.length = n ∧ iv = .int .i64 i ∧ wr.ownL 135 8 (.slice (some ⟨g, 0, none⟩) n n) cs' ∧ w.turned wr (fun x => x = g)) (fun iv _ => n - (intOf iv).toNat)
  case atStart => exact ⟨0, cs, Nat.zero_le _, hn, rfl, ho, World.turned.refl _ _⟩
  case round =>
    obtain ⟨i, cs', hi, hl, rfl, ho1, ht1⟩ := hrel
    by_cases hlt : i < n
    · have hi1 : (i : Int) < n := by omega
      clear ho hn
      go_wp2_with (refine wpL_store rfl 135 _ _ rfl 135 8 _ _ ho1 i (by rw [hl]; exact hlt) g n n rfl _ rfl rfl #[.int .i64 (-99), .int .i64 0, .string ⟨#[]⟩, .string ⟨#[]⟩, .string ⟨#[]⟩, .int .i64 0, .int .i64 0, .int .i64 0] rfl (by kernel_rfl) rfl (etyx_one (mkEx (-99))) ?_; intro w2 ho2 hg2)
      exact ⟨⟨i + 1, _, by omega, by rw [List.length_set]; exact hl, val_int (by omega), ho2, ht1.grew hg2 (fun k _ hk => by cases hk; rfl)⟩, by simp [intOf]; omega⟩
    · have hii : i = n := by omega
      subst hii
      go_wp2_with fail
      go_end0
      exact ⟨rfl, ht1⟩
theorem neq_ety (a b : Ety) (w : World) : (binOp .neq 135 (.agg #[.int .i64 a.term, .int .i64 a.cmd.kind, .string a.cmd.key, .string a.cmd.val, .string a.cmd.old, .int .i64 a.cmd.rev, .int .i64 a.cmd.ses, .int .i64 a.cmd.seq]) (.agg #[.int .i64 b.term, .int .i64 b.cmd.kind, .string b.cmd.key, .string b.cmd.val, .string b.cmd.old, .int .i64 b.cmd.rev, .int .i64 b.cmd.ses, .int .i64 b.cmd.seq])).run Try.prog w = .ok (.bool (!Entry.same ⟨a.term, a.cmd⟩ ⟨b.term, b.cmd⟩)) w := neq_entry ⟨a.term, a.cmd⟩ ⟨b.term, b.cmd⟩ w
set_option maxRecDepth 100000 in
set_option maxHeartbeats 1000000 in
theorem sameEntries_same (a1 a2 : Option Addr) (c1 c2 : Nat) (rs : List Ety) (w : World) (hn : rs.length ≤ 281474976710656) (h1 : rs ≠ [] → w.reads 8 (.slice a1 rs.length c1) (rs.map Ety.cells)) (h2 : rs ≠ [] → w.reads 8 (.slice a2 rs.length c2) (rs.map Ety.cells)) :
    Calls Try.prog 102 #[.slice a1 rs.length c1, .slice a2 rs.length c2] w fun e w' => e = .returned (.bool true) ∧ ∃ n, w' = w.drewN n := by
  have heqn := neq_ety
  go_enter Try.func102, Try.ntmps102
  go_wp2
  go_loopw [5] (fun i wr => ∃ k : Nat, k ≤ rs.length ∧ i = .int .i64 k ∧ ∃ n, wr = w.drewN n) (fun i _ => rs.length - (intOf i).toNat)
  case atStart => exact ⟨0, Nat.zero_le _, rfl, 0, rfl⟩
  case round =>
    obtain ⟨k, hk, rfl, n, rfl⟩ := hrel
    by_cases hlt : k < rs.length
    · have hne : rs ≠ [] := fun e => by rw [e] at hlt; simp at hlt
      obtain ⟨g1, o1, rfl, hg1, hr1⟩ := Ety.at_reads (h1 hne) hlt
      obtain ⟨g2, o2, rfl, hg2, hr2⟩ := Ety.at_reads (h2 hne) hlt
      generalize rs[k] = c at hr1 hr2
      obtain ⟨x0, x1, x2, x3, x4, x5, x6, x7⟩ := Ety.off hr1
      obtain ⟨y0, y1, y2, y3, y4, y5, y6, y7⟩ := Ety.off hr2
      have hcc : Entry.same ⟨c.term, c.cmd⟩ ⟨c.term, c.cmd⟩ = true := (Entry.same_iff _ _).2 rfl
      clear hr1 hr2 h1 h2 hne
      go_wp2
      go_quiet (fail)
      go_wp2
      exact ⟨⟨k + 1, by omega, val_int (by omega), n + nq, rfl⟩, by simp [intOf]; omega⟩
    · have hkk : k = rs.length := by omega
      subst hkk
      go_wp2
      go_ret
      exact ⟨rfl, n, rfl⟩
set_option maxRecDepth 100000 in
set_option maxHeartbeats 2000000 in
theorem sameState_same (a1 a2 : Option Addr) (c1 c2 : Nat) (S : WSt) (w : World) (hn : S.log.length ≤ 281474976710656) (h1 : S.log ≠ [] → w.reads 8 (.slice a1 S.log.length c1) (S.log.map Ety.cells)) (h2 : S.log ≠ [] → w.reads 8 (.slice a2 S.log.length c2) (S.log.map Ety.cells)) :
    Calls Try.prog 45 #[.agg (S.cellsA (.slice a1 S.log.length c1)).toArray, .agg (S.cellsA (.slice a2 S.log.length c2)).toArray] w fun e w' => e = .returned (.bool true) ∧ Below w.heap.size w w' := by
  have HSE : Hid (∀ W, Below w.heap.size w W → Calls Try.prog 102 #[.slice a1 S.log.length c1, .slice a2 S.log.length c2] W fun e w' => e = .returned (.bool true) ∧ Below W.heap.size W w') := by
    intro W hW
    refine (sameEntries_same a1 a2 c1 c2 S.log W hn (fun hne => (h1 hne).keep fun x hx => hW.block x (reads_lt (h1 hne) hx)) (fun hne => (h2 hne).keep fun x hx => hW.block x (reads_lt (h2 hne) hx))).mono ?_
    rintro e w' ⟨rfl, n, rfl⟩
    exact ⟨rfl, below_drewN (Below.refl _ _) n⟩
  unfold WSt.cellsA
  clear h1 h2
  go_enter Try.func45, Try.ntmps45
  go_wp2_with (go_at_call 102; refine (HSE.out _ (by repeat (first | exact Below.refl _ _ | assumption | with_reducible refine below_drewN ?_ _ | refine Gr.ext ?_ _ | refine Gr.alloc ?_ _ | refine Gr.drew ?_ | (refine Gr.set ?_ (by first | (simp; done) | (simp; omega)) _)))).mono ?_; rintro e w1 ⟨rfl, hb1⟩; obtain ⟨x1, rfl⟩ := Below.ext hb1; clear hb1)
  exact bodyPost_ret (v := .bool true) (by simp [results, Try.results45, go_sem]) rfl ⟨rfl, (by repeat (first | exact Below.refl _ _ | assumption | with_reducible refine below_drewN ?_ _ | refine Gr.ext ?_ _ | refine Gr.alloc ?_ _ | refine Gr.drew ?_ | (refine Gr.set ?_ (by first | (simp; done) | (simp; omega)) _)))⟩
end Go.Proofs.Ytcbbnmodjnnbeaa
/- The law on journals: the desk, both sides, the book. -/
set_option linter.unusedSimpArgs false
set_option linter.unusedVariables false
namespace Go.Proofs.Ytcbbnmodjnnbeaa
open Go.RowKit

/-- What a desk is: w0 the world at the law's begin; its block, both disks, the book; its two lists, and what they should hold; each side's journals, disk, last journal's state; n: a bound on the book and on the journals; col: a colour for each block. -/
structure DD where
  w0 : World
  dp : Nat
  p : Nat
  q : Nat
  kb : Nat
  xv : Value
  yv : Value
  jx : List Nat
  yx : List Nat
  js : List Nat
  ys : List Nat
  FX : Nat → Prop
  FB : Nat → Prop
  Dx : Dk
  Dy : Dk
  Lx : Lv
  Ly : Lv
  n : Nat
  col : Nat → Nat
def ptrC (b : Nat) : List Value := [.pointer (some ⟨b, 0, none⟩)]
structure DAt (w : World) (d : DD) : Prop where
  below : Below d.w0.heap.size d.w0 w
  blk : w.heap[d.dp]? = some (.cells #[.pointer (some ⟨d.p, 0, none⟩), .pointer (some ⟨d.q, 0, none⟩), d.xv, d.yv, .pointer (some ⟨d.kb, 0, none⟩)] 98)
  ox : w.ownL 101 1 d.xv (d.jx.map ptrC)
  oy : w.ownL 168 1 d.yv (d.yx.map ptrC)
  px : PX w d.p d.js d.FX d.Dx d.Lx
  py : PY w d.q d.ys d.Dy d.Ly
  bk : BkIn w d.kb d.FB d.n
  c0 : d.col d.dp = 0
  c1 : ∀ x, d.xv.ownBlock = some x → d.col x = 1
  c2 : ∀ x, d.yv.ownBlock = some x → d.col x = 2
  c3 : ∀ x, d.FX x → d.col x = 3
  c4 : ∀ x, footY d.q d.ys x → d.col x = 4
  c5 : ∀ x, d.FB x → d.col x = 5
  ge : ∀ x, d.col x ≤ 5 → d.w0.heap.size ≤ x
def colUp (col : Nat → Nat) (N c : Nat) (x : Nat) : Nat := if x < N then col x else c
theorem colUp_lt {col : Nat → Nat} {N c x : Nat} (h : x < N) : colUp col N c x = col x := by unfold colUp; rw [if_pos h]
theorem colUp_ge {col : Nat → Nat} {N c x : Nat} (h : N ≤ x) : colUp col N c x = c := by unfold colUp; rw [if_neg (by omega)]
section
variable {w w' : World} {d : DD}
theorem DAt.lt (h : DAt w d) : d.dp < w.heap.size := (Array.getElem?_eq_some_iff.1 h.blk).1
theorem DAt.size (h : DAt w d) : d.w0.heap.size ≤ w.heap.size := h.below.size
/-- A step that turns blocks of one colour alone. -/
theorem DAt.step (h : DAt w d) {S : Nat → Prop} (ht : w.turned w' S) (hS : ∀ x, S x → x < w.heap.size → d.col x ≤ 5) : Below d.w0.heap.size d.w0 w' :=
  ⟨ht.os.trans h.below.os, ht.tape.trans h.below.tape, ht.output.trans h.below.output, Nat.le_trans h.below.size ht.size, fun k hk => (ht.block k (by have := h.size; omega) (fun e => by have := h.ge k (hS k e (by have := h.size; omega)); omega)).trans (h.below.block k hk)⟩
theorem DAt.grown (h : DAt w d) (hb : Below w.heap.size w w') : DAt w' d :=
  have ht := World.turned.of_below hb (fun _ => False)
  ⟨h.step ht (fun _ e => e.elim), (hb.block d.dp h.lt).trans h.blk, h.ox.keep fun k hk => hb.block k (h.ox.lt hk), h.oy.keep fun k hk => hb.block k (h.oy.lt hk), h.px.grown hb, h.py.grown hb, h.bk.beside ht fun _ _ e => e, h.c0, h.c1, h.c2, h.c3, h.c4, h.c5, h.ge⟩
theorem colUp_of {col : Nat → Nat} {N c c' x : Nat} (h : col x = c') (hx : x < N) : colUp col N c x = c' := (colUp_lt hx).trans h
theorem DAt.geUp (h : DAt w d) (c : Nat) : ∀ x, colUp d.col w.heap.size c x ≤ 5 → d.w0.heap.size ≤ x := fun x hx => by
  unfold colUp at hx
  split at hx
  · exact h.ge x hx
  · have := h.size; omega
/-- A call at the program's side. -/
theorem DAt.x' (h : DAt w d) {js : List Nat} {D : Dk} {L : Lv} (ho : XOut w w' d.p js d.FX D L) : ∃ F, DAt w' { d with js := js, FX := F, Dx := D, Lx := L, col := colUp d.col w.heap.size 3 } := by
  obtain ⟨F, hp, hf, ht⟩ := ho
  have hne : ∀ {x c : Nat}, d.col x = c → c ≠ 3 → ¬ d.FX x := fun hc hn hx => hn (hc.symm.trans (h.c3 _ hx))
  have cl : ∀ {x c : Nat}, d.col x = c → x < w.heap.size → colUp d.col w.heap.size 3 x = c := fun a b => colUp_of a b
  refine ⟨F, ⟨h.step ht fun x hx _ => by rw [h.c3 x hx]; decide, (ht.block _ h.lt (hne h.c0 (by decide))).trans h.blk, h.ox.keep fun k hk => ht.block k (h.ox.lt hk) (hne (h.c1 k hk) (by decide)), h.oy.keep fun k hk => ht.block k (h.oy.lt hk) (hne (h.c2 k hk) (by decide)), hp, h.py.beside ht fun x hx => hne (h.c4 x hx) (by decide), h.bk.beside ht fun x hx => hne (h.c5 x hx) (by decide), cl h.c0 h.lt, fun x hx => cl (h.c1 x hx) (h.ox.lt hx), fun x hx => cl (h.c2 x hx) (h.oy.lt hx), fun x hx => ?_, fun x hx => cl (h.c4 x hx) (h.py.lt hx), fun x hx => cl (h.c5 x hx) (h.bk.lt x hx), h.geUp 3⟩⟩
  rcases hf x hx with e | e
  · exact cl (h.c3 x e) (h.px.lt x e)
  · exact colUp_ge e
theorem DAt.x (h : DAt w d) {js : List Nat} {D : Dk} {L : Lv} (ho : XOut w w' d.p js d.FX D L) : ∃ F col, DAt w' { d with js := js, FX := F, Dx := D, Lx := L, col := col } := by
  obtain ⟨F, h1⟩ := h.x' ho
  exact ⟨F, _, h1⟩
/-- A call at the document's side. -/
theorem DAt.y' (h : DAt w d) {ys : List Nat} {D : Dk} {L : Lv} (hp : PY w' d.q ys D L) (hf : ∀ x, footY d.q ys x → footY d.q d.ys x ∨ w.heap.size ≤ x) (ht : w.turned w' (footY d.q d.ys)) : DAt w' { d with ys := ys, Dy := D, Ly := L, col := colUp d.col w.heap.size 4 } := by
  have hne : ∀ {x c : Nat}, d.col x = c → c ≠ 4 → ¬ footY d.q d.ys x := fun hc hn hx => hn (hc.symm.trans (h.c4 _ hx))
  have cl : ∀ {x c : Nat}, d.col x = c → x < w.heap.size → colUp d.col w.heap.size 4 x = c := fun a b => colUp_of a b
  refine ⟨h.step ht fun x hx _ => by rw [h.c4 x hx]; decide, (ht.block _ h.lt (hne h.c0 (by decide))).trans h.blk, h.ox.keep fun k hk => ht.block k (h.ox.lt hk) (hne (h.c1 k hk) (by decide)), h.oy.keep fun k hk => ht.block k (h.oy.lt hk) (hne (h.c2 k hk) (by decide)), h.px.beside ht fun x hx => hne (h.c3 x hx) (by decide), hp, h.bk.beside ht fun x hx => hne (h.c5 x hx) (by decide), cl h.c0 h.lt, fun x hx => cl (h.c1 x hx) (h.ox.lt hx), fun x hx => cl (h.c2 x hx) (h.oy.lt hx), fun x hx => cl (h.c3 x hx) (h.px.lt x hx), fun x hx => ?_, fun x hx => cl (h.c5 x hx) (h.bk.lt x hx), h.geUp 4⟩
  rcases hf x hx with e | e
  · exact cl (h.c4 x e) (h.py.lt e)
  · exact colUp_ge e
theorem DAt.y (h : DAt w d) {ys : List Nat} {D : Dk} {L : Lv} (hp : PY w' d.q ys D L) (hf : ∀ x, footY d.q ys x → footY d.q d.ys x ∨ w.heap.size ≤ x) (ht : w.turned w' (footY d.q d.ys)) : ∃ col, DAt w' { d with ys := ys, Dy := D, Ly := L, col := col } := ⟨_, h.y' hp hf ht⟩
/-- What is made from here on has the colour 6. -/
theorem DAt.fresh (h : DAt w d) : DAt w { d with col := colUp d.col w.heap.size 6 } := by
  have cl : ∀ {x c : Nat}, d.col x = c → x < w.heap.size → colUp d.col w.heap.size 6 x = c := fun a b => colUp_of a b
  exact ⟨h.below, h.blk, h.ox, h.oy, h.px, h.py, h.bk, cl h.c0 h.lt, fun x hx => cl (h.c1 x hx) (h.ox.lt hx), fun x hx => cl (h.c2 x hx) (h.oy.lt hx), fun x hx => cl (h.c3 x hx) (h.px.lt x hx), fun x hx => cl (h.c4 x hx) (h.py.lt hx), fun x hx => cl (h.c5 x hx) (h.bk.lt x hx), h.geUp 6⟩
/-- What is of no part may turn. -/
theorem DAt.beside (h : DAt w d) {S : Nat → Prop} (ht : w.turned w' S) (hS : ∀ x, S x → 6 ≤ d.col x) (hge : ∀ x, S x → d.w0.heap.size ≤ x) : DAt w' d := by
  have hne : ∀ {x c : Nat}, d.col x = c → c ≤ 5 → ¬ S x := fun hc hn hx => by have := hS _ hx; omega
  exact ⟨⟨ht.os.trans h.below.os, ht.tape.trans h.below.tape, ht.output.trans h.below.output, Nat.le_trans h.below.size ht.size, fun k hk => (ht.block k (by have := h.size; omega) (fun e => by have := hge k e; omega)).trans (h.below.block k hk)⟩, (ht.block _ h.lt (hne h.c0 (by decide))).trans h.blk, h.ox.keep fun k hk => ht.block k (h.ox.lt hk) (hne (h.c1 k hk) (by decide)), h.oy.keep fun k hk => ht.block k (h.oy.lt hk) (hne (h.c2 k hk) (by decide)), h.px.beside ht fun x hx => hne (h.c3 x hx) (by decide), h.py.beside ht fun x hx => hne (h.c4 x hx) (by decide), h.bk.beside ht fun x hx => hne (h.c5 x hx) (by decide), h.c0, h.c1, h.c2, h.c3, h.c4, h.c5, h.ge⟩
/-- The book takes a list that is new (colour 6 or none). -/
theorem DAt.b (h : DAt w d) {F : Nat → Prop} {m : Nat} (l : Value) (hl : ∀ x, l.ownBlock = some x → d.col x = 6) (hb : BkIn w' d.kb F m) (hf : ∀ x, F x → d.FB x ∨ l.ownBlock = some x ∨ w.heap.size ≤ x) (ht : w.turned w' (fun x => d.FB x ∨ l.ownBlock = some x)) (hge : ∀ x, l.ownBlock = some x → d.w0.heap.size ≤ x) : ∃ col, DAt w' { d with FB := F, n := m, col := col } := by
  have hne : ∀ {x c : Nat}, d.col x = c → c < 5 → ¬ (d.FB x ∨ l.ownBlock = some x) := fun {x c} hc hn hx => by
    rcases hx with hx | hx
    · have := h.c5 x hx; omega
    · have := hl x hx; omega
  let col : Nat → Nat := fun x => if l.ownBlock = some x then 5 else colUp d.col w.heap.size 5 x
  have cl : ∀ {x c : Nat}, d.col x = c → c ≤ 5 → x < w.heap.size → col x = c := fun {x c} a hc b => by
    show (if l.ownBlock = some x then 5 else colUp d.col w.heap.size 5 x) = c
    rw [if_neg (fun e => by have := hl x e; omega)]; exact colUp_of a b
  have hst : Below d.w0.heap.size d.w0 w' :=
    ⟨ht.os.trans h.below.os, ht.tape.trans h.below.tape, ht.output.trans h.below.output, Nat.le_trans h.below.size ht.size, fun k hk => (ht.block k (by have := h.size; omega) (fun e => by
      rcases e with e | e
      · have := h.ge k (by rw [h.c5 k e]; decide); omega
      · have := hge k e; omega)).trans (h.below.block k hk)⟩
  refine ⟨col, ⟨hst, (ht.block _ h.lt (hne h.c0 (by decide))).trans h.blk, h.ox.keep fun k hk => ht.block k (h.ox.lt hk) (hne (h.c1 k hk) (by decide)), h.oy.keep fun k hk => ht.block k (h.oy.lt hk) (hne (h.c2 k hk) (by decide)), h.px.beside ht fun x hx => hne (h.c3 x hx) (by decide), h.py.beside ht fun x hx => hne (h.c4 x hx) (by decide), hb, cl h.c0 (by decide) h.lt, fun x hx => cl (h.c1 x hx) (by decide) (h.ox.lt hx), fun x hx => cl (h.c2 x hx) (by decide) (h.oy.lt hx), fun x hx => cl (h.c3 x hx) (by decide) (h.px.lt x hx), fun x hx => cl (h.c4 x hx) (by decide) (h.py.lt hx), fun x hx => ?_, fun x hx => ?_⟩⟩
  · show (if l.ownBlock = some x then 5 else colUp d.col w.heap.size 5 x) = 5
    split
    · rfl
    · rename_i hn
      rcases hf x hx with e | e | e
      · exact colUp_of (h.c5 x e) (h.bk.lt x e)
      · exact absurd e hn
      · exact colUp_ge e
  · have hx' : (if l.ownBlock = some x then 5 else colUp d.col w.heap.size 5 x) ≤ 5 := hx
    split at hx'
    · rename_i e; exact hge x e
    · exact h.geUp 5 x hx'
/-- The desk's first list has grown. -/
theorem DAt.lx (h : DAt w d) {w1 : World} {v : Value} {jx : List Nat} (hg : Grew w w1 d.xv v) (ho : w1.ownL 101 1 v (jx.map ptrC)) : ∃ col, DAt (w1.setCell ⟨d.dp, 2, none⟩ v) { d with xv := v, jx := jx, col := col } := by
  have hnew : ∀ x, v.ownBlock = some x → d.xv.ownBlock = some x ∨ w.heap.size ≤ x := fun x hx => by
    rcases hg.own with e | e
    · exact .inl (e ▸ hx)
    · exact .inr (e x hx)
  have ht : w.turned (w1.setCell ⟨d.dp, 2, none⟩ v) (fun x => x = d.dp ∨ d.xv.ownBlock = some x) := turned_set (S := fun x => x = d.dp ∨ d.xv.ownBlock = some x) ((World.turned.refl w _).grew hg fun x _ hx => .inr hx) (.inl rfl) _
  have hk : ∀ {x c : Nat}, d.col x = c → 2 ≤ c → ¬ (x = d.dp ∨ d.xv.ownBlock = some x) := fun {x c} hc hn hx => by
    rcases hx with hx | hx
    · have := h.c0; rw [← hx] at this; omega
    · have := h.c1 x hx; omega
  have cl : ∀ {x c : Nat}, d.col x = c → x < w.heap.size → colUp d.col w.heap.size 1 x = c := fun a b => colUp_of a b
  have hdx : d.xv.ownBlock ≠ some d.dp := fun e => by have := h.c1 _ e; have := h.c0; omega
  have hdv : v.ownBlock ≠ some d.dp := fun e => by
    rcases hnew _ e with e | e
    · exact hdx e
    · have := h.lt; omega
  refine ⟨colUp d.col w.heap.size 1, ⟨h.step ht fun x hx hl => ?_, ?_, World.ownL.set ho hdv _, h.oy.keep fun k hk' => ht.block k (h.oy.lt hk') (hk (h.c2 k hk') (by decide)), h.px.beside ht fun x hx => hk (h.c3 x hx) (by decide), h.py.beside ht fun x hx => hk (h.c4 x hx) (by decide), h.bk.beside ht fun x hx => hk (h.c5 x hx) (by decide), cl h.c0 h.lt, fun x hx => ?_, fun x hx => cl (h.c2 x hx) (h.oy.lt hx), fun x hx => cl (h.c3 x hx) (h.px.lt x hx), fun x hx => cl (h.c4 x hx) (h.py.lt hx), fun x hx => cl (h.c5 x hx) (h.bk.lt x hx), h.geUp 1⟩⟩
  · rcases hx with rfl | hx
    · rw [h.c0]; decide
    · rw [h.c1 x hx]; decide
  · refine (cells_set ((hg.keep h.lt hdx).trans h.blk) _).trans ?_
    simp only [List.setIfInBounds_toArray, List.set_cons_succ, List.set_cons_zero]
  · rcases hnew x hx with e | e
    · exact cl (h.c1 x e) (h.ox.lt e)
    · exact colUp_ge e
/-- The desk's second list has grown. -/
theorem DAt.ly (h : DAt w d) {w1 : World} {v : Value} {yx : List Nat} (hg : Grew w w1 d.yv v) (ho : w1.ownL 168 1 v (yx.map ptrC)) : ∃ col, DAt (w1.setCell ⟨d.dp, 3, none⟩ v) { d with yv := v, yx := yx, col := col } := by
  have hnew : ∀ x, v.ownBlock = some x → d.yv.ownBlock = some x ∨ w.heap.size ≤ x := fun x hx => by
    rcases hg.own with e | e
    · exact .inl (e ▸ hx)
    · exact .inr (e x hx)
  have ht : w.turned (w1.setCell ⟨d.dp, 3, none⟩ v) (fun x => x = d.dp ∨ d.yv.ownBlock = some x) := turned_set (S := fun x => x = d.dp ∨ d.yv.ownBlock = some x) ((World.turned.refl w _).grew hg fun x _ hx => .inr hx) (.inl rfl) _
  have hk : ∀ {x c : Nat}, d.col x = c → c ≠ 0 → c ≠ 2 → ¬ (x = d.dp ∨ d.yv.ownBlock = some x) := fun {x c} hc hn hn2 hx => by
    rcases hx with hx | hx
    · have := h.c0; rw [← hx] at this; omega
    · have := h.c2 x hx; omega
  have cl : ∀ {x c : Nat}, d.col x = c → x < w.heap.size → colUp d.col w.heap.size 2 x = c := fun a b => colUp_of a b
  have hdx : d.yv.ownBlock ≠ some d.dp := fun e => by have := h.c2 _ e; have := h.c0; omega
  have hdv : v.ownBlock ≠ some d.dp := fun e => by
    rcases hnew _ e with e | e
    · exact hdx e
    · have := h.lt; omega
  refine ⟨colUp d.col w.heap.size 2, ⟨h.step ht fun x hx hl => ?_, ?_, h.ox.keep fun k hk' => ht.block k (h.ox.lt hk') (hk (h.c1 k hk') (by decide) (by decide)), World.ownL.set ho hdv _, h.px.beside ht fun x hx => hk (h.c3 x hx) (by decide) (by decide), h.py.beside ht fun x hx => hk (h.c4 x hx) (by decide) (by decide), h.bk.beside ht fun x hx => hk (h.c5 x hx) (by decide) (by decide), cl h.c0 h.lt, fun x hx => cl (h.c1 x hx) (h.ox.lt hx), fun x hx => ?_, fun x hx => cl (h.c3 x hx) (h.px.lt x hx), fun x hx => cl (h.c4 x hx) (h.py.lt hx), fun x hx => cl (h.c5 x hx) (h.bk.lt x hx), h.geUp 2⟩⟩
  · rcases hx with rfl | hx
    · rw [h.c0]; decide
    · rw [h.c2 x hx]; decide
  · refine (cells_set ((hg.keep h.lt hdx).trans h.blk) _).trans ?_
    simp only [List.setIfInBounds_toArray, List.set_cons_succ, List.set_cons_zero]
  · rcases hnew x hx with e | e
    · exact cl (h.c2 x e) (h.oy.lt e)
    · exact colUp_ge e
end
/-- Between two deeds. -/
structure Rdy (d : DD) (m : Nat) : Prop where
  jx : d.jx = d.js
  yx : d.yx = d.ys
  len : d.ys.length = d.js.length
  D : d.Dy = d.Dx
  L : d.Ly = d.Lx
  calm : d.Dx.Calm
  le : d.Dx.Le m
  m0 : 100 ≤ m
  jl : d.js.length ≤ d.n
theorem DAt.live {w : World} {d : DD} (h : DAt w d) {m : Nat} (hr : Rdy d m) : ∀ k S, d.Lx = some (k, S) → ∃ l, Liv d.Dx k S l := by
  intro k S hL
  obtain ⟨_, _, hl, _⟩ := h.py.live k S (by rw [hr.L]; exact hL)
  rw [hr.D] at hl
  exact hl
theorem desk_cells {w : World} {dp : Nat} {a b c e f : Value} (h : w.heap[dp]? = some (.cells #[a, b, c, e, f] 98)) : w.cell? ⟨dp, 0, none⟩ = some a ∧ w.cell? ⟨dp, 1, none⟩ = some b ∧ w.cell? ⟨dp, 2, none⟩ = some c ∧ w.cell? ⟨dp, 3, none⟩ = some e ∧ w.cell? ⟨dp, 4, none⟩ = some f ∧ ∀ o, w.frozen? ⟨dp, o, none⟩ = false := by
  refine ⟨?_, ?_, ?_, ?_, ?_, fun o => by simp [World.frozen?, h]⟩
  all_goals (simp only [World.cell?, h]; rfl)
/-- A deed's values. -/
structure DeedV where
  kind : Int
  k : Int
  keep : Int
  ra : Option Addr
  rc : Nat
  rs : List Rec
  S : WSt
  la : Option Addr
  lc : Nat
def DeedV.cells (x : DeedV) : List Value := [.int .i64 x.kind, .int .i64 x.k, .int .i64 x.keep, .slice x.ra x.rs.length x.rc, .int .i64 x.S.gen, .int .i64 x.S.term, .int .i64 x.S.vote, .int .i64 x.S.base, .int .i64 x.S.bterm, .string x.S.data, .slice x.la x.S.log.length x.lc]
structure DeedV.ok (w0 : World) (x : DeedV) (b : Nat) : Prop where
  rd : x.rs ≠ [] → w0.reads 14 (.slice x.ra x.rs.length x.rc) (x.rs.map Rec.cells)
  rl : x.rs.length ≤ 1048576
  rj : (jrnL x.rs).length ≤ b
  ld : x.S.log ≠ [] → w0.reads 8 (.slice x.la x.S.log.length x.lc) (x.S.log.map Ety.cells)
  ll : x.S.log.length ≤ 1048576
  lj : ∀ g, (jrnL ({ x.S with gen := g } : WSt).recs).length ≤ b
  k0 : -9223372036854775808 ≤ x.k ∧ x.k < 9223372036854775808
  p0 : -9223372036854775808 ≤ x.keep ∧ x.keep < 9223372036854775808
theorem deed_cells {w : World} {g : Nat} {a0 a1 a2 a3 a4 a5 a6 a7 a8 a9 a10 : Value} {T : TypeId} (h : w.heap[g]? = some (.cells #[a0, a1, a2, a3, a4, a5, a6, a7, a8, a9, a10] T)) : w.cell? ⟨g, 0, none⟩ = some a0 ∧ w.cell? ⟨g, 1, none⟩ = some a1 ∧ w.cell? ⟨g, 2, none⟩ = some a2 ∧ w.cell? ⟨g, 3, none⟩ = some a3 ∧ w.cell? ⟨g, 4, none⟩ = some a4 ∧ w.cell? ⟨g, 5, none⟩ = some a5 ∧ w.cell? ⟨g, 6, none⟩ = some a6 ∧ w.cell? ⟨g, 7, none⟩ = some a7 ∧ w.cell? ⟨g, 8, none⟩ = some a8 ∧ w.cell? ⟨g, 9, none⟩ = some a9 ∧ w.cell? ⟨g, 10, none⟩ = some a10 ∧ ∀ o, w.frozen? ⟨g, o, none⟩ = false := by
  refine ⟨?_, ?_, ?_, ?_, ?_, ?_, ?_, ?_, ?_, ?_, ?_, fun o => by simp [World.frozen?, h]⟩
  all_goals (simp only [World.cell?, h]; rfl)
/-- What a deed leaves. -/
def DeedOut (w0 : World) (dp n m : Nat) (e : Ending) (w' : World) : Prop := e = .returned (.bool true) ∧ ∃ d', DAt w' d' ∧ Rdy d' m ∧ d'.w0 = w0 ∧ d'.dp = dp ∧ d'.n = n
theorem DAt.up {w : World} {d : DD} (h : DAt w d) {n : Nat} (hn : d.n ≤ n) : DAt w { d with n := n } :=
  ⟨h.below, h.blk, h.ox, h.oy, h.px, h.py, h.bk.up hn, h.c0, h.c1, h.c2, h.c3, h.c4, h.c5, h.ge⟩
theorem deedOut_mk {w' : World} {d d' : DD} {n m : Nat} (h : DAt w' d') (hr : Rdy d' m) (h0 : d'.w0 = d.w0) (h1 : d'.dp = d.dp) (h2 : d'.n ≤ n) : DeedOut d.w0 d.dp n m (.returned (.bool true)) w' :=
  ⟨rfl, { d' with n := n }, h.up h2, ⟨hr.jx, hr.yx, hr.len, hr.D, hr.L, hr.calm, hr.le, hr.m0, Nat.le_trans hr.jl h2⟩, h0, h1, rfl⟩
/-- A block that is in no part stays. -/
theorem XOut.block {w w' : World} {p : Nat} {js : List Nat} {F : Nat → Prop} {D : Dk} {L : Lv} (h : XOut w w' p js F D L) {z : Nat} (hz : z < w.heap.size) (hn : ¬ F z) : w'.heap[z]? = w.heap[z]? := by
  obtain ⟨F', _, _, ht⟩ := h
  exact ht.block z hz hn
theorem XOut.size {w w' : World} {p : Nat} {js : List Nat} {F : Nat → Prop} {D : Dk} {L : Lv} (h : XOut w w' p js F D L) : w.heap.size ≤ w'.heap.size := by
  obtain ⟨F', _, _, ht⟩ := h
  exact ht.size
end Go.Proofs.Ytcbbnmodjnnbeaa
