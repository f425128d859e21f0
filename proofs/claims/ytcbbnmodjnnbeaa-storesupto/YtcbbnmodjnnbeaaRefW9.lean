/- The document's store: add. -/
import Derived.Test.YtcbbnmodjnnbeaaRefW3
import Derived.Test.YtcbbnmodjnnbeaaAppL
import Derived.Test.YtcbbnmodjnnbeaaRefLoadP
set_option linter.unusedSimpArgs false
set_option linter.unusedVariables false
namespace Go.Proofs.Ytcbbnmodjnnbeaa
open Go.RowKit

/-- A store while it is loaded. -/
def rlC (r f : Nat) (vl : Value) (ss : List (Nat × Res)) : Array Value := (.int .i64 r :: .int .i64 f :: vl :: sessCells ss).toArray
structure RefL (w : World) (q : Nat) (r f : Nat) (vl : Value) (ss : List (Nat × Res)) (l : List KV) : Prop where
  blk : w.heap[q]? = some (.cells (rlC r f vl ss) 147)
  own : w.ownL 203 4 vl (l.map kvCells)
  asc : RAsc l
  len : l.length ≤ 17000000
theorem RefL.lt {w : World} {q r f : Nat} {vl : Value} {ss : List (Nat × Res)} {l : List KV} (h : RefL w q r f vl ss l) : q < w.heap.size := (Array.getElem?_eq_some_iff.1 h.blk).1
theorem RefL.off {w : World} {q r f : Nat} {vl : Value} {ss : List (Nat × Res)} {l : List KV} (h : RefL w q r f vl ss l) : vl.ownBlock ≠ some q := by
  intro e
  rcases h.own.1.2 with ⟨rfl, _⟩ | ⟨g, cap, cur, rfl, _, hb, _⟩
  · cases e
  · have e2 : g = q := by simpa [Value.ownBlock] using e
    subst e2
    rw [h.blk] at hb
    injection hb with hb
    injection hb with _ h1 _
    exact absurd h1 (by decide)
theorem RefL.foot_lt {w : World} {q r f : Nat} {vl : Value} {ss : List (Nat × Res)} {l : List KV} (h : RefL w q r f vl ss l) {x : Nat} (hx : footR q vl x) : x < w.heap.size := by
  rcases hx with rfl | hx
  · exact h.lt
  · exact h.own.lt hx
theorem RefL.keep {w w' : World} {q r f : Nat} {vl : Value} {ss : List (Nat × Res)} {l : List KV} (h : RefL w q r f vl ss l) (hk : ∀ x, footR q vl x → w'.heap[x]? = w.heap[x]?) : RefL w' q r f vl ss l :=
  ⟨(hk q (.inl rfl)).trans h.blk, h.own.keep fun x hx => hk x (.inr hx), h.asc, h.len⟩
theorem RefL.grown {w w' : World} {q r f : Nat} {vl : Value} {ss : List (Nat × Res)} {l : List KV} (h : RefL w q r f vl ss l) (hb : Below w.heap.size w w') : RefL w' q r f vl ss l := h.keep fun x hx => hb.block x (h.foot_lt hx)
theorem rl_cells {w : World} {q r f : Nat} {vl : Value} {ss : List (Nat × Res)} (h : w.heap[q]? = some (.cells (rlC r f vl ss) 147)) :
    w.cell? ⟨q, 0, none⟩ = some (.int .i64 r) ∧ w.cell? ⟨q, 1, none⟩ = some (.int .i64 f) ∧ w.cell? ⟨q, 2, none⟩ = some vl ∧ ∀ o, w.frozen? ⟨q, o, none⟩ = false := by
  refine ⟨?_, ?_, ?_, fun o => ?_⟩
  · simp only [World.cell?, h]; rfl
  · simp only [World.cell?, h]; rfl
  · simp only [World.cell?, h]; rfl
  · simp [World.frozen?, h]
theorem add_at {l : List KV} {x : KV} {at_ : Nat} (ha : RAsc l) (hle : at_ ≤ l.length) (hup : ∀ j y, at_ ≤ j → l[j]? = some y → x.2.rev < y.2.rev) (hlow : at_ = 0 ∨ ∃ y, l[at_ - 1]? = some y ∧ y.2.rev < x.2.rev) : addL l x = some (l.take at_ ++ x :: l.drop at_) := by
  have hlow2 : ∀ j y, j < at_ → l[j]? = some y → y.2.rev < x.2.rev := by
    intro j y hj hy
    rcases hlow with h | ⟨z, hz, hzx⟩
    · omega
    · have h1 := rasc_lt ha hy hz
      rcases Nat.lt_or_eq_of_le (show j ≤ at_ - 1 by omega) with h2 | h2
      · have := h1.1.2 h2; omega
      · have := h1.2.2 h2; omega
  have hno : l.any (fun y => y.2.rev == x.2.rev) = false := by
    rw [List.any_eq_false]
    intro y hy e
    obtain ⟨j, hj⟩ := List.getElem?_of_mem hy
    have e2 : y.2.rev = x.2.rev := by simpa using e
    rcases Nat.lt_or_ge j at_ with h1 | h1
    · have := hlow2 j y h1 hj; omega
    · have := hup j y h1 hj; omega
  unfold addL
  rw [if_neg (by rw [hno]; simp)]
  congr 1
  unfold insR
  have e1 : l.takeWhile (fun y => decide (y.2.rev < x.2.rev)) = l.take at_ := by
    have h1 : (l.takeWhile (fun y => decide (y.2.rev < x.2.rev))).length = at_ := takeWhile_len _ l at_ hle (fun j hj hja => decide_eq_true (hlow2 j _ hja (List.getElem?_eq_getElem hj))) (fun hj => decide_eq_false (by have := hup at_ _ (Nat.le_refl _) (List.getElem?_eq_getElem hj); omega))
    have h2 := List.prefix_iff_eq_take.1 (List.takeWhile_prefix (fun y : KV => decide (y.2.rev < x.2.rev)) (l := l))
    rw [h1] at h2; exact h2
  have e2 : l.dropWhile (fun y => decide (y.2.rev < x.2.rev)) = l.drop at_ := by
    have h3 := List.takeWhile_append_dropWhile (p := fun y : KV => decide (y.2.rev < x.2.rev)) (l := l)
    rw [e1] at h3
    have h4 : l.take at_ ++ l.drop at_ = l := List.take_append_drop _ _
    exact List.append_cancel_left (h3.trans h4.symm)
  rw [e1, e2]
theorem add_eq {l : List KV} {x y : KV} {j : Nat} (hy : l[j]? = some y) (h : y.2.rev = x.2.rev) : addL l x = none := by
  unfold addL
  rw [if_pos (List.any_eq_true.2 ⟨y, List.mem_of_getElem? hy, by simp [h]⟩)]
theorem kv_len (l : List KV) : ∀ x ∈ l.map kvCells, x.length = 4 := fun x hx => by obtain ⟨y, _, rfl⟩ := List.mem_map.1 hx; rfl
theorem kv_one (l : List KV) : ∀ x ∈ l.map kvCells, ∀ u ∈ x, u.oneCell' = true := fun x hx u hu => by
  obtain ⟨y, _, rfl⟩ := List.mem_map.1 hx
  simp only [kvCells, List.mem_cons, List.not_mem_nil, or_false] at hu
  rcases hu with rfl | rfl | rfl | rfl <;> rfl
theorem take_reads {w : World} {a : Option Addr} {cap i : Nat} {l : List KV} (h : w.ownL 203 4 (.slice a l.length cap) (l.map kvCells)) (hi : i ≤ l.length) : w.reads 4 (.slice a i cap) ((l.take i).map kvCells) := by
  rcases h.reads with ⟨e1, e2⟩ | ⟨g, off, cap', hv, hg, hc⟩
  · have : l = [] := by simpa using e2
    subst this
    have h0 : i = 0 := by simpa using hi
    subst h0
    refine .inl ⟨?_, by simp⟩
    injection e1 with e3 e4 e5
    rw [e3, e5]
  · injection hv with e3 e4 e5
    subst e3 e5
    refine .inr ⟨g, off, cap, by rw [List.length_map, List.length_take, Nat.min_eq_left hi], hg, fun j c hj => hc j c ?_⟩
    rw [List.getElem?_map] at hj ⊢
    rw [List.getElem?_take] at hj
    split at hj
    · exact hj
    · cases hj
theorem drop_reads {w : World} {g cap off cap' : Nat} {l : List KV} (h : w.ownL 203 4 (.slice (some ⟨g, 0, none⟩) l.length cap) (l.map kvCells)) (i : Nat) (ho : off = i * 4) : w.reads 4 (.slice (some ⟨g, off, none⟩) (l.length - i) cap') ((l.drop i).map kvCells) := by
  subst ho
  rcases h.reads with ⟨e1, e2⟩ | ⟨g', off, cap2, hv, hg, hc⟩
  · cases e1
  · injection hv with e3 e4 e5
    injection e3 with e3
    injection e3 with e6 e7
    subst e6 e7
    refine .inr ⟨g, i * 4, cap', by rw [List.length_map, List.length_drop], hg, fun j c hj => ?_⟩
    rw [List.getElem?_map, List.getElem?_drop] at hj
    have := hc (i + j) c (by rw [List.getElem?_map]; exact hj)
    rw [show 0 + (i + j) * 4 = i * 4 + j * 4 by omega] at this
    exact this
theorem reads_congr {w : World} {sz : Nat} {v : Value} {xs ys : List (List Value)} (h : w.reads sz v xs) (e : xs = ys) : w.reads sz v ys := e ▸ h
theorem VInv.app {w1 wr W w3 : World} {fs gs : List KV} {v v' : Value} (h : VInv w1 wr fs v) (hb : Below wr.heap.size wr W) (ho : w3.ownL 203 4 v' (fs.map kvCells ++ gs.map kvCells)) (hg : Grew W w3 v v') : VInv w1 w3 (fs ++ gs) v' := by
  have h1 := h.below.size
  have h2 := hb.size
  refine ⟨by rw [List.map_append]; exact ho, fun x hx => ?_, (h.below.trans (hb.mono h1)).trans ⟨hg.g.os, hg.g.tape, hg.g.output, hg.g.size, fun k hk => hg.g.block k (by omega) fun e => by have := h.new k e.symm; omega⟩⟩
  rcases hg.own with h3 | h3
  · exact h.new x (h3 ▸ hx)
  · have := h3 x hx; omega
set_option maxRecDepth 100000 in
set_option maxHeartbeats 4000000 in
theorem refAdd (w : World) (q r f : Nat) (vl : Value) (ss : List (Nat × Res)) (l : List KV) (h : RefL w q r f vl ss l) (x : KV) (hn : l.length < 17000000) :
    Calls Try.prog 152 #[.pointer (some ⟨q, 0, none⟩), .agg #[.string x.1, .int .i64 x.2.rev, .bool x.2.gone, .string x.2.val]] w fun e w' => (addL l x = none ∧ e = .returned (.bool false) ∧ Below w.heap.size w w') ∨ ∃ l' vl', addL l x = some l' ∧ e = .returned (.bool true) ∧ RefL w' q r f vl' ss l' ∧ (∀ y, vl'.ownBlock = some y → w.heap.size ≤ y) ∧ w.turned w' (fun y => y = q) := by
  obtain ⟨a, cap, rfl⟩ : ∃ a cap, vl = .slice a l.length cap := by obtain ⟨a, c, hv⟩ := h.own.len; rw [List.length_map] at hv; exact ⟨a, c, hv⟩
  have H : Hid (RefL w q r f (.slice a l.length cap) ss l) := h
  obtain ⟨c0, c1, c2, cf⟩ := rl_cells h.blk
  have hq := h.lt
  have hown := h.own
  have HN : Hid (l.length < 17000000) := hn
  clear h
  go_enter Try.func152, Try.ntmps152
  go_wp2_with fail
  have HW0 : Hid ((w.alloc (.cells #[.string x.1, .int .i64 x.2.rev, .bool x.2.gone, .string x.2.val] 203)).heap[w.heap.size]? = some (.cells #[.string x.1, .int .i64 x.2.rev, .bool x.2.gone, .string x.2.val] 203)) := heap_alloc_new w _
  go_loopw [5] (fun iv wr => ∃ (i : Nat), i ≤ l.length ∧ iv = .int .i64 i ∧ Hid (∀ j y, i ≤ j → l[j]? = some y → x.2.rev < y.2.rev) ∧ Hid (∃ n, wr = (w.alloc (.cells #[.string x.1, .int .i64 x.2.rev, .bool x.2.gone, .string x.2.val] 203)).drewN n)) (fun iv _ => (intOf iv).toNat)
  case atStart => exact ⟨l.length, Nat.le_refl _, rfl, (fun j y hj hy => by have := (List.getElem?_eq_some_iff.1 hy).1; omega), 0, rfl⟩
  case round =>
    obtain ⟨i, hi, rfl, HUP, HWR⟩ := hrel
    have hW : ∀ p : Addr, p.block < w.heap.size → wr.cell? p = w.cell? p := fun p hp => by
      obtain ⟨n, hw⟩ := HWR.out
      rw [hw]; exact World.cell?_of_block (Below.heap_alloc _ _ _ hp)
    have hx1 : wr.cell? ⟨w.heap.size, 1, none⟩ = some (.int .i64 x.2.rev) := by
      obtain ⟨n, hw⟩ := HWR.out
      rw [hw]
      show (w.alloc _).cell? _ = _
      simp only [World.cell?, HW0.out]; rfl
    have e2 := (hW ⟨q, 2, none⟩ hq).trans c2
    have hwr : wr.heap.size = w.heap.size + 1 := by
      obtain ⟨n, hw⟩ := HWR.out
      rw [hw]
      show (w.alloc _).heap.size = _
      simp
    have hqr : q < wr.heap.size := by omega
    have hcap : l.length ≤ cap ∧ (a = none → cap = 0) := by
      have hl : (l.map kvCells).length = l.length := List.length_map _
      rcases hown.1.2 with ⟨e1, e3⟩ | ⟨g, cap', cur, e1, _, _, r1, _⟩
      · injection e1 with e1 e4 e5
        rw [hl] at e3
        exact ⟨by omega, fun _ => e5⟩
      · injection e1 with e1 e4 e5
        rw [hl] at r1
        exact ⟨by omega, fun h => by rw [h] at e1; cases e1⟩
    have hci : (i : Int) ≤ cap := by have := hcap.1; omega
    have hcn : i ≤ cap := by have := hcap.1; omega
    have hlc : l.length ≤ cap := hcap.1
    rcases Nat.eq_zero_or_pos i with h0 | h0
    · subst h0
      have HADD : Hid (addL l x = some (l.take 0 ++ x :: l.drop 0)) := add_at H.out.asc (Nat.zero_le _) HUP.out (.inl rfl)
      clear hW
      go_wp2_with fail
      go_quiet (fail)
      have HB2 : Hid (Below w.heap.size w (wr.drewN nq)) := by
        obtain ⟨n, hw⟩ := HWR.out
        rw [hw]
        show Below _ _ _
        exact (by repeat (first | exact Below.refl _ _ | assumption | with_reducible refine below_drewN ?_ _ | refine Gr.ext ?_ _ | refine Gr.alloc ?_ _ | refine Gr.drew ?_ | (refine Gr.set ?_ (by first | (simp; done) | (simp; omega)) _)))
      have hX2 : (wr.drewN nq).heap[w.heap.size]? = some (.cells #[.string x.1, .int .i64 x.2.rev, .bool x.2.gone, .string x.2.val] 203) := by
        obtain ⟨n, hw⟩ := HWR.out
        rw [hw]; exact HW0.out
      have hxlt : w.heap.size < (wr.drewN nq).heap.size := (Array.getElem?_eq_some_iff.1 hX2).1
      have HX2 : Hid _ := hX2
      obtain ⟨W2, hW2⟩ : ∃ W2, W2 = wr.drewN nq := ⟨_, rfl⟩
      rw [← hW2] at HB2 HX2 hxlt hX2 ⊢
      have HR2 : Hid (RefL W2 q r f (.slice a l.length cap) ss l) := H.out.grown HB2.out
      obtain ⟨p0, p1, p2, pf⟩ := rl_cells HR2.out.blk
      have hq2 : q < W2.heap.size := HR2.out.lt
      clear hW2 HWR e2 hx1 hqr hwr
      go_wp2_with (at_builtin; refine Held.out ?_)
      unfold Held
      refine wpL_app rfl _ _ 142 rfl 203 4 48 _ Try.underlying142 infoVsn rfl (by decide) nilS [] rfl (World.ownL.nil _ _ _) _ 0 _ ((l.take 0).map kvCells) rfl (by rw [List.length_map, List.length_take]; omega) (fun _ => take_reads HR2.out.own hi) (kv_len _) (kv_one _) (by simp only [List.length_nil]; unfold maxLen; have := HN.out; omega) (by simp only [List.length_nil]; have := HN.out; omega) ?_
      intro a3 cap3 w3 ho3 hg3 _
      simp only [List.length_nil, Nat.zero_add] at ho3 hg3 ⊢
      have HV3 : Hid (VInv w w3 (l.take 0) (.slice a3 0 cap3)) := (VInv.app (fs := []) (v := nilS) ⟨World.ownL.nil _ _ _, (fun x hx => by cases hx), HB2.out⟩ (Below.refl _ _) ho3 hg3)
      have hB3 : Below W2.heap.size W2 w3 := ⟨hg3.g.os, hg3.g.tape, hg3.g.output, hg3.g.size, fun k hk => hg3.g.block k hk (fun e => by cases e)⟩
      have hX3 := (hB3.block _ hxlt).trans HX2.out
      have x0 : w3.cell? ⟨w.heap.size, 0, none⟩ = some (.string x.1) := by simp only [World.cell?, hX3]; rfl
      have x1 : w3.cell? ⟨w.heap.size, 1, none⟩ = some (.int .i64 x.2.rev) := by simp only [World.cell?, hX3]; rfl
      have x2 : w3.cell? ⟨w.heap.size, 2, none⟩ = some (.bool x.2.gone) := by simp only [World.cell?, hX3]; rfl
      have x3 : w3.cell? ⟨w.heap.size, 3, none⟩ = some (.string x.2.val) := by simp only [World.cell?, hX3]; rfl
      have hx3l : w.heap.size < w3.heap.size := (Array.getElem?_eq_some_iff.1 hX3).1
      have hone : ∀ u ∈ (#[.string x.1, .int .i64 x.2.rev, .bool x.2.gone, .string x.2.val] : Array Value).toList, u.oneCell' = true := by
        intro u hu
        simp only [List.mem_cons, List.not_mem_nil, or_false] at hu
        rcases hu with rfl | rfl | rfl | rfl <;> rfl
      have htl : ((l.take (0)).map kvCells).length = 0 := by rw [List.length_map, List.length_take]; omega
      have hl1 : ((l.take (0)).map kvCells).length + 1 ≤ maxLen := by rw [htl]; unfold maxLen; have := HN.out; omega
      have hl2 : (((l.take (0)).map kvCells).length + 1) * 48 ≤ 140737488355328 := by rw [htl]; have := HN.out; omega
      clear ho3 hg3 hX3 hB3 p0 p1 p2 pf
      go_frame
      go_wp2_with (at_builtin; refine Held.out ?_)
      unfold Held
      refine wpL_new rfl _ _ 142 rfl 203 4 48 _ Try.underlying142 infoVsn rfl (by decide) _ ((l.take (0)).map kvCells) rfl (HV3.out.own.alloc _) #[.string x.1, .int .i64 x.2.rev, .bool x.2.gone, .string x.2.val] w3.heap.size rfl (Hp.new (by simp [go_sem])) rfl hone hl1 hl2 ?_
      intro a4 cap4 w4 ho4 hg4 _
      rw [htl] at ho4 hg4 ⊢
      have HV4 : Hid (VInv w w4 (l.take (0) ++ [x]) (.slice a4 (0 + 1) cap4)) := HV3.out.add (by repeat (first | exact Below.refl _ _ | assumption | with_reducible refine below_drewN ?_ _ | refine Gr.ext ?_ _ | refine Gr.alloc ?_ _ | refine Gr.drew ?_ | (refine Gr.set ?_ (by first | (simp; done) | (simp; omega)) _))) ho4 hg4
      have HR4 : Hid (RefL w4 q r f (.slice a l.length cap) ss l) := H.out.grown HV4.out.below
      obtain ⟨p0, p1, p2, pf⟩ := rl_cells HR4.out.blk
      have hq4 : q < w4.heap.size := HR4.out.lt
      clear ho4 hg4 x0 x1 x2 x3
      go_frame
      go_wp2_with (at_builtin; refine Held.out ?_)
      all_goals unfold Held
      all_goals
        refine wpL_app rfl _ _ 142 rfl 203 4 48 _ Try.underlying142 infoVsn rfl (by decide) (.slice a4 (0 + 1) cap4) ((l.take (0) ++ [x]).map kvCells) rfl HV4.out.own _ _ _ ((l.drop (0)).map kvCells) rfl (by simp only [List.length_map, List.length_drop, Nat.sub_zero]) (fun hne => (by first | exact reads_congr (take_reads HR4.out.own (Nat.le_refl _)) (by rw [List.take_length]; rfl) | exact drop_reads HR4.out.own _ (by omega) | exact absurd (by simp [List.drop_of_length_le (show l.length ≤ k + 1 by omega)]) hne)) (kv_len _) (kv_one _) (by simp only [List.length_map, List.length_append, List.length_take, List.length_singleton]; unfold maxLen; have := HN.out; omega) (by simp only [List.length_map, List.length_append, List.length_take, List.length_singleton]; have := HN.out; omega) ?_
        intro a5 cap5 w5 ho5 hg5 _
        generalize ((l.take (0) ++ [x]).map kvCells).length + _ = n5 at ho5 hg5 ⊢
        have HV5 : Hid (VInv w w5 ((l.take (0) ++ [x]) ++ l.drop (0)) (.slice a5 n5 cap5)) := HV4.out.app (Below.refl _ _) ho5 hg5
        have HR5 := H.out.grown HV5.out.below
        have HQ5 : Hid (w5.heap[q]? = some (.cells (rlC r f _ ss) 147)) := HR5.blk
        obtain ⟨s0, s1, s2, sf⟩ := rl_cells HR5.blk
        have hq5 : q < w5.heap.size := HR5.lt
        have HFIN : Hid (RefL (w5.setCell ⟨q, 2, none⟩ (.slice a5 n5 cap5)) q r f (.slice a5 n5 cap5) ss (l.take (0) ++ x :: l.drop (0)) ∧ (∀ y, (Value.slice a5 n5 cap5).ownBlock = some y → w.heap.size ≤ y) ∧ w.turned (w5.setCell ⟨q, 2, none⟩ (.slice a5 n5 cap5)) (fun y => y = q)) := by
          have hqn : (Value.slice a5 n5 cap5).ownBlock ≠ some q := fun e => by have := HV5.out.new q e; omega
          refine ⟨⟨?_, ?_, add_asc H.out.asc HADD.out, ?_⟩, HV5.out.new, World.turned.set (S := fun y => y = q) (World.turned.of_below HV5.out.below _) (fun _ => rfl) _⟩
          · rw [setCell_heapB, if_pos rfl, HQ5.out]; rfl
          · refine World.ownL.set ?_ hqn _
            have := HV5.out.own
            rw [List.append_assoc] at this
            exact this
          · have := HN.out
            simp only [List.length_append, List.length_cons, List.length_take, List.length_drop]; omega
        clear ho5 hg5 HR5 p0 p1 p2 pf
        go_frame
        go_wp2_with fail
        go_ret
        exact .inr ⟨_, _, HADD.out, rfl, HFIN.out⟩
    · obtain ⟨k, rfl⟩ : ∃ k, i = k + 1 := ⟨i - 1, by omega⟩
      have hy := List.getElem?_eq_getElem (l := l) (show k < l.length by omega)
      generalize l[k] = y at hy
      obtain ⟨g, rfl, hg, hr⟩ := kv_reads hown hy
      have d1 := (hW ⟨g, k * 4 + 1, none⟩ hg).trans (kv_off hr).2.1
      have hk1 : (k : Int) < l.length := by omega
      have HY : Hid (l[k]? = some y) := hy
      clear hW hr hy
      rcases Nat.lt_trichotomy y.2.rev x.2.rev with h1 | h1 | h1
      · have HADD : Hid (addL l x = some (l.take (k + 1) ++ x :: l.drop (k + 1))) := add_at H.out.asc hi HUP.out (.inr ⟨y, HY.out, h1⟩)
        have f1 : decide (x.2.rev ≤ y.2.rev) = false := decide_eq_false (by omega)
        clear h1
        go_wp2_with fail
        go_quiet (fail)
        have HB2 : Hid (Below w.heap.size w (wr.drewN nq)) := by
          obtain ⟨n, hw⟩ := HWR.out
          rw [hw]
          show Below _ _ _
          exact (by repeat (first | exact Below.refl _ _ | assumption | with_reducible refine below_drewN ?_ _ | refine Gr.ext ?_ _ | refine Gr.alloc ?_ _ | refine Gr.drew ?_ | (refine Gr.set ?_ (by first | (simp; done) | (simp; omega)) _)))
        have hX2 : (wr.drewN nq).heap[w.heap.size]? = some (.cells #[.string x.1, .int .i64 x.2.rev, .bool x.2.gone, .string x.2.val] 203) := by
          obtain ⟨n, hw⟩ := HWR.out
          rw [hw]; exact HW0.out
        have hxlt : w.heap.size < (wr.drewN nq).heap.size := (Array.getElem?_eq_some_iff.1 hX2).1
        have HX2 : Hid _ := hX2
        obtain ⟨W2, hW2⟩ : ∃ W2, W2 = wr.drewN nq := ⟨_, rfl⟩
        rw [← hW2] at HB2 HX2 hxlt hX2 ⊢
        have HR2 : Hid (RefL W2 q r f (.slice (some ⟨g, 0, none⟩) l.length cap) ss l) := H.out.grown HB2.out
        obtain ⟨p0, p1, p2, pf⟩ := rl_cells HR2.out.blk
        have hq2 : q < W2.heap.size := HR2.out.lt
        clear hW2 HWR e2 hx1 hqr hwr
        go_wp2_with (at_builtin; refine Held.out ?_)
        unfold Held
        refine wpL_app rfl _ _ 142 rfl 203 4 48 _ Try.underlying142 infoVsn rfl (by decide) nilS [] rfl (World.ownL.nil _ _ _) _ (k + 1) _ ((l.take (k + 1)).map kvCells) rfl (by rw [List.length_map, List.length_take]; omega) (fun _ => take_reads HR2.out.own hi) (kv_len _) (kv_one _) (by simp only [List.length_nil]; unfold maxLen; have := HN.out; omega) (by simp only [List.length_nil]; have := HN.out; omega) ?_
        intro a3 cap3 w3 ho3 hg3 _
        simp only [List.length_nil, Nat.zero_add] at ho3 hg3 ⊢
        have HV3 : Hid (VInv w w3 (l.take (k + 1)) (.slice a3 (k + 1) cap3)) := (VInv.app (fs := []) (v := nilS) ⟨World.ownL.nil _ _ _, (fun x hx => by cases hx), HB2.out⟩ (Below.refl _ _) ho3 hg3)
        have hB3 : Below W2.heap.size W2 w3 := ⟨hg3.g.os, hg3.g.tape, hg3.g.output, hg3.g.size, fun k hk => hg3.g.block k hk (fun e => by cases e)⟩
        have hX3 := (hB3.block _ hxlt).trans HX2.out
        have x0 : w3.cell? ⟨w.heap.size, 0, none⟩ = some (.string x.1) := by simp only [World.cell?, hX3]; rfl
        have x1 : w3.cell? ⟨w.heap.size, 1, none⟩ = some (.int .i64 x.2.rev) := by simp only [World.cell?, hX3]; rfl
        have x2 : w3.cell? ⟨w.heap.size, 2, none⟩ = some (.bool x.2.gone) := by simp only [World.cell?, hX3]; rfl
        have x3 : w3.cell? ⟨w.heap.size, 3, none⟩ = some (.string x.2.val) := by simp only [World.cell?, hX3]; rfl
        have hx3l : w.heap.size < w3.heap.size := (Array.getElem?_eq_some_iff.1 hX3).1
        have hone : ∀ u ∈ (#[.string x.1, .int .i64 x.2.rev, .bool x.2.gone, .string x.2.val] : Array Value).toList, u.oneCell' = true := by
          intro u hu
          simp only [List.mem_cons, List.not_mem_nil, or_false] at hu
          rcases hu with rfl | rfl | rfl | rfl <;> rfl
        have htl : ((l.take ((k + 1))).map kvCells).length = (k + 1) := by rw [List.length_map, List.length_take]; omega
        have hl1 : ((l.take ((k + 1))).map kvCells).length + 1 ≤ maxLen := by rw [htl]; unfold maxLen; have := HN.out; omega
        have hl2 : (((l.take ((k + 1))).map kvCells).length + 1) * 48 ≤ 140737488355328 := by rw [htl]; have := HN.out; omega
        clear ho3 hg3 hX3 hB3 p0 p1 p2 pf
        go_frame
        go_wp2_with (at_builtin; refine Held.out ?_)
        unfold Held
        refine wpL_new rfl _ _ 142 rfl 203 4 48 _ Try.underlying142 infoVsn rfl (by decide) _ ((l.take ((k + 1))).map kvCells) rfl (HV3.out.own.alloc _) #[.string x.1, .int .i64 x.2.rev, .bool x.2.gone, .string x.2.val] w3.heap.size rfl (Hp.new (by simp [go_sem])) rfl hone hl1 hl2 ?_
        intro a4 cap4 w4 ho4 hg4 _
        rw [htl] at ho4 hg4 ⊢
        have HV4 : Hid (VInv w w4 (l.take ((k + 1)) ++ [x]) (.slice a4 ((k + 1) + 1) cap4)) := HV3.out.add (by repeat (first | exact Below.refl _ _ | assumption | with_reducible refine below_drewN ?_ _ | refine Gr.ext ?_ _ | refine Gr.alloc ?_ _ | refine Gr.drew ?_ | (refine Gr.set ?_ (by first | (simp; done) | (simp; omega)) _))) ho4 hg4
        have HR4 : Hid (RefL w4 q r f (.slice (some ⟨g, 0, none⟩) l.length cap) ss l) := H.out.grown HV4.out.below
        obtain ⟨p0, p1, p2, pf⟩ := rl_cells HR4.out.blk
        have hq4 : q < w4.heap.size := HR4.out.lt
        clear ho4 hg4 x0 x1 x2 x3
        go_frame
        go_wp2_with (at_builtin; refine Held.out ?_)
        all_goals unfold Held
        all_goals
          refine wpL_app rfl _ _ 142 rfl 203 4 48 _ Try.underlying142 infoVsn rfl (by decide) (.slice a4 (k + 1 + 1) cap4) ((l.take (k + 1) ++ [x]).map kvCells) rfl HV4.out.own _ _ _ ((l.drop (k + 1)).map kvCells) rfl (by simp only [List.length_map, List.length_drop, Nat.sub_zero]) (fun hne => (by by_cases hlk : l.length ≤ k + 1; (· exact absurd (by rw [List.drop_of_length_le hlk]; rfl) hne); (· first | (exfalso; omega) | exact drop_reads HR4.out.own (k + 1) rfl))) (kv_len _) (kv_one _) (by simp only [List.length_map, List.length_append, List.length_take, List.length_singleton]; unfold maxLen; have := HN.out; omega) (by simp only [List.length_map, List.length_append, List.length_take, List.length_singleton]; have := HN.out; omega) ?_
          intro a5 cap5 w5 ho5 hg5 _
          generalize ((l.take (k + 1) ++ [x]).map kvCells).length + _ = n5 at ho5 hg5 ⊢
          have HV5 : Hid (VInv w w5 ((l.take (k + 1) ++ [x]) ++ l.drop (k + 1)) (.slice a5 n5 cap5)) := HV4.out.app (Below.refl _ _) ho5 hg5
          have HR5 := H.out.grown HV5.out.below
          have HQ5 : Hid (w5.heap[q]? = some (.cells (rlC r f _ ss) 147)) := HR5.blk
          obtain ⟨s0, s1, s2, sf⟩ := rl_cells HR5.blk
          have hq5 : q < w5.heap.size := HR5.lt
          have HFIN : Hid (RefL (w5.setCell ⟨q, 2, none⟩ (.slice a5 n5 cap5)) q r f (.slice a5 n5 cap5) ss (l.take (k + 1) ++ x :: l.drop (k + 1)) ∧ (∀ y, (Value.slice a5 n5 cap5).ownBlock = some y → w.heap.size ≤ y) ∧ w.turned (w5.setCell ⟨q, 2, none⟩ (.slice a5 n5 cap5)) (fun y => y = q)) := by
            have hqn : (Value.slice a5 n5 cap5).ownBlock ≠ some q := fun e => by have := HV5.out.new q e; omega
            refine ⟨⟨?_, ?_, add_asc H.out.asc HADD.out, ?_⟩, HV5.out.new, World.turned.set (S := fun y => y = q) (World.turned.of_below HV5.out.below _) (fun _ => rfl) _⟩
            · rw [setCell_heapB, if_pos rfl, HQ5.out]; rfl
            · refine World.ownL.set ?_ hqn _
              have := HV5.out.own
              rw [List.append_assoc] at this
              exact this
            · have := HN.out
              simp only [List.length_append, List.length_cons, List.length_take, List.length_drop]; omega
          clear ho5 hg5 HR5 p0 p1 p2 pf
          go_frame
          go_wp2_with fail
          go_ret
          exact .inr ⟨_, _, HADD.out, rfl, HFIN.out⟩
      · have HADD : Hid (addL l x = none) := add_eq HY.out h1
        have f1 : decide (x.2.rev ≤ y.2.rev) = true := decide_eq_true (by omega)
        have f2 : (y.2.rev == x.2.rev) = true := beq_iff_eq.2 h1
        have f3 : ((y.2.rev : Int) == (x.2.rev : Int)) = true := beq_iff_eq.2 (by omega)
        clear h1
        go_wp2_with fail
        go_quiet (fail)
        go_wp2_with fail
        go_quiet (fail)
        go_wp2_with fail
        go_ret
        exact .inl ⟨HADD.out, rfl, by obtain ⟨n, hw⟩ := HWR.out; rw [hw]; show Below _ _ _; exact (by repeat (first | exact Below.refl _ _ | assumption | with_reducible refine below_drewN ?_ _ | refine Gr.ext ?_ _ | refine Gr.alloc ?_ _ | refine Gr.drew ?_ | (refine Gr.set ?_ (by first | (simp; done) | (simp; omega)) _)))⟩
      · have f1 : decide (x.2.rev ≤ y.2.rev) = true := decide_eq_true (by omega)
        have f2 : (y.2.rev == x.2.rev) = false := beq_eq_false_iff_ne.2 (by omega)
        have f3 : ((y.2.rev : Int) == (x.2.rev : Int)) = false := beq_eq_false_iff_ne.2 (by omega)
        have HUP2 : Hid (∀ j z, k ≤ j → l[j]? = some z → x.2.rev < z.2.rev) := fun j z hj hz => by
          rcases Nat.lt_or_eq_of_le hj with h2 | h2
          · exact HUP.out j z h2 hz
          · subst h2; rw [HY.out] at hz; injection hz with hz; rw [← hz]; exact h1
        clear h1
        go_wp2_with fail
        go_quiet (fail)
        go_wp2_with fail
        go_quiet (fail)
        go_wp2_with fail
        exact ⟨⟨k, by omega, val_int (by omega), HUP2, by obtain ⟨n, hw⟩ := HWR.out; rw [hw, World.drewN_drewN]; exact ⟨_, rfl⟩⟩, by simp [intOf]⟩
end Go.Proofs.Ytcbbnmodjnnbeaa
