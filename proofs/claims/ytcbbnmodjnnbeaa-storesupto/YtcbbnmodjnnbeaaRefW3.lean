/- The document's store: lay, lift. -/
import Derived.Test.YtcbbnmodjnnbeaaRefW1
import Derived.Test.YtcbbnmodjnnbeaaRaise
set_option linter.unusedSimpArgs false
set_option linter.unusedVariables false
namespace Go.Proofs.Ytcbbnmodjnnbeaa
open Go.RowKit

theorem infoVsn : (Try.prog.info? 203).map (fun i => (i.zero, i.size, i.bytes)) = some (some (.agg #[.string ⟨#[]⟩, .int .i64 0, .bool false, .string ⟨#[]⟩]), 4, 48) := by kernel_rfl
/-- What a call that changes the document's store gives. -/
def RChg (w w' : World) (q : Nat) (vl : Value) (s' : St) : Prop := ∃ vl' l', RefAt w' q vl' s' l' ∧ (∀ x, vl'.ownBlock = some x → vl.ownBlock = some x ∨ w.heap.size ≤ x) ∧ w.turned w' (footR q vl)
theorem RChg.refl' {w w' : World} {q : Nat} {vl : Value} {s : St} {l : List KV} (h : RefAt w q vl s l) (hb : Below w.heap.size w w') : RChg w w' q vl s :=
  ⟨vl, l, h.grown hb, fun x hx => .inl hx, World.turned.of_below hb _⟩
theorem RChg.pre {w W w' : World} {q : Nat} {vl : Value} {s' : St} (hb : Below w.heap.size w W) (h : RChg W w' q vl s') : RChg w w' q vl s' := by
  obtain ⟨vl', l', h1, h2, h3⟩ := h
  have := hb.size
  exact ⟨vl', l', h1, fun x hx => (h2 x hx).imp id fun h => by omega, (World.turned.of_below hb _).trans h3 fun _ _ h => h⟩
theorem RChg.post {w W w' : World} {q : Nat} {vl : Value} {s' : St} (h : RChg w W q vl s') (hb : Below W.heap.size W w') : RChg w w' q vl s' := by
  obtain ⟨vl', l', h1, h2, h3⟩ := h
  exact ⟨vl', l', h1.grown hb, h2, h3.trans (World.turned.of_below hb (fun _ => False)) fun _ _ h => h.elim⟩
theorem rsC_set0 (s : St) (vl : Value) (n : Nat) : (rsC s vl).setIfInBounds 0 (.int .i64 n) = rsC { s with rev := n } vl := rfl
theorem rsC_set1 (s : St) (vl : Value) (n : Nat) : (rsC s vl).setIfInBounds 1 (.int .i64 n) = rsC { s with floor := n } vl := rfl
theorem rsC_set2 (s : St) (vl vl' : Value) : (rsC s vl).setIfInBounds 2 vl' = rsC s vl' := rfl
theorem lay_d {n : Nat} (h : n ≤ 1000000) : (n + 1) * 48 ≤ 140737488355328 := by omega
set_option maxRecDepth 100000 in
theorem refLayFull (w : World) (q : Nat) (vl : Value) (s : St) (l : List KV) (h : RefAt w q vl s l) (k v : ByteArray) (gone : Bool) (hr : s.rev = 1000000) :
    Calls Try.prog 163 #[.pointer (some ⟨q, 0, none⟩), .string k, .bool gone, .string v] w fun e w' => e = .returned (.bool false) ∧ Below w.heap.size w w' := by
  obtain ⟨c0, c1, c2, cf⟩ := rs_cells h.blk
  have hq := h.lt
  have c0' : w.cell? ⟨q, 0, none⟩ = some (.int .i64 1000000) := by rw [c0, hr]; rfl
  clear h hr c0
  go_enter Try.func163, Try.ntmps163
  go_wp2 
  go_ret
  exact ⟨rfl, (by repeat (first | exact Below.refl _ _ | assumption | with_reducible refine below_drewN ?_ _ | refine Gr.ext ?_ _ | refine Gr.alloc ?_ _ | refine Gr.drew ?_ | (refine Gr.set ?_ (by first | (simp; done) | (simp; omega)) _)))⟩
set_option maxRecDepth 100000 in
set_option maxHeartbeats 1000000 in
theorem refLayOk (w : World) (q : Nat) (vl : Value) (s : St) (l : List KV) (h : RefAt w q vl s l) (k v : ByteArray) (gone : Bool) (hr : s.rev < 1000000) :
    Calls Try.prog 163 #[.pointer (some ⟨q, 0, none⟩), .string k, .bool gone, .string v] w fun e w' => e = .returned (.bool true) ∧ RChg w w' q vl (s.lay k v gone) := by
  obtain ⟨c0, c1, c2, cf⟩ := rs_cells h.blk
  have hq := h.lt
  have H : Hid (RefAt w q vl s l) := h
  have hoff := h.off
  have hown := h.own
  have hne : decide ((1000000 : Int) ≤ s.rev) = false := decide_eq_false (by omega)
  have hri : (s.rev : Int) < 1000000 := by omega
  have HR : Hid (s.rev < 1000000) := hr
  have hlen : (l.map kvCells).length = l.length := List.length_map _
  have hl1 : l.length + 1 ≤ maxLen := lay_a h.len
  have hl2 : (l.length + 1) * 48 ≤ 140737488355328 := lay_d h.len
  have hone : ∀ u ∈ (#[.string k, .int .i64 ((s.rev : Int) + 1), .bool gone, .string v] : Array Value).toList, u.oneCell' = true := by
    intro u hu
    simp only [List.mem_cons, List.not_mem_nil, or_false] at hu
    rcases hu with rfl | rfl | rfl | rfl <;> rfl
  clear h hr
  go_enter Try.func163, Try.ntmps163
  go_wp2_with fail
  refine world_any (F := fun w4 => w.turned w4 (fun x => x = q) ∧ w4.heap[q]? = some (.cells (rsC { s with rev := s.rev + 1 } vl) 147)) ⟨World.turned.set (S := fun x => x = q) (World.turned.refl w _) (fun _ => rfl) _, ?_⟩ ?_
  · rw [setCell_heapB, if_pos rfl, H.out.blk]; rfl
  rintro w4 ⟨ht4, hq4⟩
  have HT4 : Hid (w.turned w4 (fun x => x = q)) := ht4
  have HQ4 : Hid (w4.heap[q]? = some (.cells (rsC { s with rev := s.rev + 1 } vl) 147)) := hq4
  have hown4 : w4.ownL 203 4 vl (l.map kvCells) := hown.keep fun x hx => ht4.block x (hown.lt hx) fun e => hoff (e ▸ hx)
  clear c0 c1 c2 cf
  obtain ⟨c0, c1, c2, cf⟩ := rs_cells hq4
  have hql : q < w4.heap.size := (Array.getElem?_eq_some_iff.1 hq4).1
  have HEND : Hid (∀ (o : Obj) a1 cap1 w6, w6.ownL 203 4 (.slice a1 (l.length + 1) cap1) (l.map kvCells ++ [#[.string k, .int .i64 ((s.rev : Int) + 1), .bool gone, .string v].toList]) → Grew (w4.alloc o).drew w6 vl (.slice a1 (l.length + 1) cap1) → RChg w (w6.setCell ⟨q, 2, none⟩ (.slice a1 (l.length + 1) cap1)) q vl (s.lay k v gone)) := by
    intro o a1 cap1 w6 ho6 hg6
    have hsz : (w4.alloc o).drew.heap.size = w4.heap.size + 1 := by show (w4.alloc o).heap.size = _; simp
    have hq6 : w6.heap[q]? = w4.heap[q]? := (hg6.keep (by omega) hoff).trans (Below.heap_alloc _ _ _ hql)
    have hnew : ∀ x, (Value.slice a1 (l.length + 1) cap1).ownBlock = some x → vl.ownBlock = some x ∨ w.heap.size ≤ x := fun x hx => by
      rcases hg6.own with h1 | h1
      · exact .inl (h1 ▸ hx)
      · have := h1 x hx; have := HT4.out.size; exact .inr (by omega)
    have hqn : (Value.slice a1 (l.length + 1) cap1).ownBlock ≠ some q := fun e => by
      rcases hnew q e with h1 | h1
      · exact hoff h1
      · omega
    refine ⟨.slice a1 (l.length + 1) cap1, l ++ [(k, ⟨s.rev + 1, v, gone⟩)], ⟨?_, ?_, H.out.tells.lay (fun k v hv => (H.out.good.bd k v hv).2) _ _ _, H.out.good.lay _ _ _ HR.out⟩, hnew, ?_⟩
    · rw [setCell_heapB, if_pos rfl, hq6, HQ4.out]; rfl
    · refine (World.ownL.set ?_ hqn _)
      rw [List.map_append]; exact ho6
    · refine (((HT4.out.mono (S' := footR q vl) fun x _ h => .inl h).alloc o).drew.grew hg6 fun x _ h => .inr h).set (fun _ => .inl rfl) _
  have HC6 : Hid (∀ (o : Obj) v' w6, Grew (w4.alloc o).drew w6 vl v' → w6.cell? ⟨q, 2, none⟩ = some vl ∧ w6.frozen? ⟨q, 2, none⟩ = false) := by
    intro o v' w6 hg6
    have hsz : (w4.alloc o).drew.heap.size = w4.heap.size + 1 := by show (w4.alloc o).heap.size = _; simp
    have hq6 : w6.heap[q]? = w4.heap[q]? := (hg6.keep (by omega) hoff).trans (Below.heap_alloc _ _ _ hql)
    obtain ⟨_, _, e2, ef⟩ := rs_cells (hq6.trans HQ4.out)
    exact ⟨e2, ef 2⟩
  clear ht4 hq4
  go_region_law (refine step_appendL rfl _ _ 142 rfl 203 4 48 _ Try.underlying142 infoVsn rfl (by decide) vl _ l.length hlen rfl ?_ #[.string k, .int .i64 ((s.rev : Int) + 1), .bool gone, .string v] _ rfl ?_ rfl hone hl1 hl2 ?_; exact (hown4.alloc _).drew; exact heap_alloc_new w4 _; intro a1 cap1 w6 ho6 hg6 hB6; obtain ⟨e6, f6⟩ := HC6.out _ _ w6 hg6; have HE6 : Hid (RChg w (w6.setCell ⟨q, 2, none⟩ (.slice a1 (l.length + 1) cap1)) q vl (s.lay k v gone)) := HEND.out _ a1 cap1 w6 ho6 hg6; clear ho6 hg6 hB6)
  all_goals
    go_wp2_with fail
    go_ret
    exact ⟨rfl, HE6.out⟩
end Go.Proofs.Ytcbbnmodjnnbeaa
/- The document's store: lift. -/
set_option linter.unusedSimpArgs false
set_option linter.unusedVariables false
namespace Go.Proofs.Ytcbbnmodjnnbeaa
open Go.RowKit

theorem good_raise {s : St} (h : Good s) (f : Nat) (hf : f ≤ s.rev) : Good (s.raise f) :=
  ⟨h.rev, hf, fun k => (h.asc k).sublist (List.drop_sublist _ _), fun k v hv => h.bd k v (List.mem_of_mem_drop hv), h.ss⟩
/-- A list of versions on the way, made behind w. -/
structure VInv (w wr : World) (xs : List KV) (v : Value) : Prop where
  own : wr.ownL 203 4 v (xs.map kvCells)
  new : ∀ x, v.ownBlock = some x → w.heap.size ≤ x
  below : Below w.heap.size w wr
theorem VInv.grow {w1 wr W : World} {fs : List KV} {v : Value} (h : VInv w1 wr fs v) (hb : Below wr.heap.size wr W) : VInv w1 W fs v :=
  ⟨h.own.keep fun x hx => hb.block x (h.own.lt hx), h.new, h.below.trans (hb.mono h.below.size)⟩
theorem VInv.add {w1 wr W w3 : World} {fs : List KV} {f : KV} {v v' : Value} (h : VInv w1 wr fs v) (hb : Below wr.heap.size wr W) (ho : w3.ownL 203 4 v' (fs.map kvCells ++ [kvCells f])) (hg : Grew W w3 v v') : VInv w1 w3 (fs ++ [f]) v' := by
  have h1 := h.below.size
  have h2 := hb.size
  refine ⟨by rw [List.map_append]; exact ho, fun x hx => ?_, (h.below.trans (hb.mono h1)).trans ⟨hg.g.os, hg.g.tape, hg.g.output, hg.g.size, fun k hk => hg.g.block k (by omega) fun e => by have := h.new k e.symm; omega⟩⟩
  rcases hg.own with h3 | h3
  · exact h.new x (h3 ▸ hx)
  · have := h3 x hx; omega
set_option maxRecDepth 100000 in
set_option maxHeartbeats 1000000 in
theorem refLiftNo (w : World) (q : Nat) (vl : Value) (s : St) (l : List KV) (h : RefAt w q vl s l) (f : Int) (hf : f ≤ s.floor ∨ (s.rev : Int) < f) :
    Calls Try.prog 164 #[.pointer (some ⟨q, 0, none⟩), .int .i64 f] w fun e w' => e = .returned (.bool false) ∧ Below w.heap.size w w' := by
  obtain ⟨c0, c1, c2, cf⟩ := rs_cells h.blk
  have hq := h.lt
  clear h
  by_cases h1 : f ≤ s.floor
  · go_enter Try.func164, Try.ntmps164
    go_wp2_with fail
    go_ret
    exact ⟨rfl, (by repeat (first | exact Below.refl _ _ | assumption | with_reducible refine below_drewN ?_ _ | refine Gr.ext ?_ _ | refine Gr.alloc ?_ _ | refine Gr.drew ?_ | (refine Gr.set ?_ (by first | (simp; done) | (simp; omega)) _)))⟩
  · have h2 : (s.rev : Int) < f := by omega
    go_enter Try.func164, Try.ntmps164
    go_wp2_with fail
    go_ret
    exact ⟨rfl, (by repeat (first | exact Below.refl _ _ | assumption | with_reducible refine below_drewN ?_ _ | refine Gr.ext ?_ _ | refine Gr.alloc ?_ _ | refine Gr.drew ?_ | (refine Gr.set ?_ (by first | (simp; done) | (simp; omega)) _)))⟩
set_option maxRecDepth 100000 in
set_option maxHeartbeats 2000000 in
theorem refLiftYes (w : World) (q : Nat) (vl : Value) (s : St) (l : List KV) (h : RefAt w q vl s l) (f : Nat) (h1 : s.floor < f) (h2 : f ≤ s.rev) :
    Calls Try.prog 164 #[.pointer (some ⟨q, 0, none⟩), .int .i64 f] w fun e w' => e = .returned (.bool true) ∧ RChg w w' q vl (s.raise f) := by
  obtain ⟨a, cap, rfl⟩ := h.at_
  have H : Hid (RefAt w q (.slice a l.length cap) s l) := h
  obtain ⟨c0, c1, c2, cf⟩ := rs_cells h.blk
  have hq := h.lt
  have hlen := h.len
  have hd1 : decide (f ≤ s.floor) = false := decide_eq_false (by omega)
  have hd2 : decide (s.rev < f) = false := decide_eq_false (by omega)
  have HF : Hid (s.floor < f ∧ f ≤ s.rev) := ⟨h1, h2⟩
  clear h h1 h2
  go_enter Try.func164, Try.ntmps164
  go_wp2_with fail
  have HI0 : Hid (VInv w w [] nilS) := ⟨World.ownL.nil _ _ _, (fun x hx => by cases hx), Below.refl _ _⟩
  clear c0 c1 c2 cf
  go_loopw [5, 6] (fun v iv wr => ∃ i : Nat, i ≤ l.length ∧ iv = .int .i64 i ∧ Hid (VInv w wr ((l.take i).filter (keepB l f)) v)) (fun _ iv _ => l.length - (intOf iv).toNat)
  case atStart => exact ⟨0, Nat.zero_le _, rfl, HI0⟩
  case round =>
    clear HI0
    obtain ⟨i, hi, rfl, HI⟩ := hrel
    have hb := HI.out.below
    have hqr : q < wr.heap.size := by have := hb.size; omega
    obtain ⟨c0, c1, c2, cf⟩ := rs_cells (H.out.grown hb).blk
    by_cases hlt : i < l.length
    · have hx := List.getElem?_eq_getElem hlt
      generalize l[i] = x at hx
      obtain ⟨g, rfl, hg, hr⟩ := kv_reads (H.out.grown hb).own hx
      obtain ⟨d0, d1, d2, d3⟩ := kv_off hr
      have HK : Hid (keepB l f x = !(decide ((i : Int) < findN l x.1 f l.length) || (decide ((i : Int) = findN l x.1 f l.length) && x.2.gone))) := keep_at H.out.tells.asc f hx
      have HS : Hid ((l.take (i + 1)).filter (keepB l f) = (l.take i).filter (keepB l f) ++ (if keepB l f x = true then [x] else [])) := lift_snoc hx
      have hi1 : (i : Int) < l.length := by omega
      have hflen : ((l.take i).filter (keepB l f)).length ≤ i := Nat.le_trans (List.length_filter_le _ _) (by rw [List.length_take]; omega)
      have hown := HI.out.own
      obtain ⟨n, hn⟩ : ∃ n, findN l x.1 f l.length = n := ⟨_, rfl⟩
      have HFN : Hid (∀ W, Below wr.heap.size wr W → Calls Try.prog 151 #[.pointer (some ⟨q, 0, none⟩), .string x.1, .int .i64 f] W fun e w' => e = .returned (.int .i64 n) ∧ Below W.heap.size W w') := fun W hW => by
        rw [← hn]
        exact refFind W q _ s l ((H.out.grown hb).grown hW) x.1 f
      rw [hn] at HK
      have hnb : -1 ≤ n ∧ n < l.length := by
        rcases find_newest H.out.tells.asc x.1 f with ⟨e, _⟩ | ⟨j, _, e, hj, _⟩ <;> (rw [hn] at e; omega)
      generalize (l.take i).filter (keepB l f) = fs at *
      have hfl : (fs.map kvCells).length = fs.length := List.length_map _
      have hl1 : (fs.map kvCells).length + 1 ≤ maxLen := by rw [hfl]; exact lay_a (by omega)
      have hl2 : ((fs.map kvCells).length + 1) * 48 ≤ 140737488355328 := by rw [hfl]; exact lay_d (by omega)
      have hone : ∀ u ∈ (#[.string x.1, .int .i64 x.2.rev, .bool x.2.gone, .string x.2.val] : Array Value).toList, u.oneCell' = true := by
        intro u hu
        simp only [List.mem_cons, List.not_mem_nil, or_false] at hu
        rcases hu with rfl | rfl | rfl | rfl <;> rfl
      clear hr hx hn
      go_wp2_with fail
      refine (HFN.out _ (Below.refl _ _)).mono ?_
      rintro e w1 ⟨rfl, hb1⟩
      obtain ⟨x1, rfl⟩ := Below.ext hb1
      clear hb1
      rcases Int.lt_trichotomy (i : Int) n with h1 | h1 | h1
      · have e1 : decide ((i : Int) < n) = true := decide_eq_true h1
        have HK2 : Hid (keepB l f x = false) := by show _ = _; rw [HK.out]; simp [e1]
        go_wp2_with fail
        exact ⟨⟨i + 1, by omega, val_int (by omega), by rw [HS.out, HK2.out]; show VInv _ _ (fs ++ []) _; rw [List.append_nil]; exact HI.out.grow (by repeat (first | exact Below.refl _ _ | assumption | with_reducible refine below_drewN ?_ _ | refine Gr.ext ?_ _ | refine Gr.alloc ?_ _ | refine Gr.drew ?_ | (refine Gr.set ?_ (by first | (simp; done) | (simp; omega)) _)))⟩, by simp [intOf]; omega⟩
      · have e1 : decide ((i : Int) < n) = false := decide_eq_false (by omega)
        have e2 : ((i : Int) == n) = true := beq_iff_eq.2 h1
        have e3 : decide ((i : Int) = n) = true := decide_eq_true h1
        rw [e1, e3] at HK
        clear e3 h1
        rcases hgn : x.2.gone with _ | _
        · rw [hgn] at d2 HK hone
          have HGN : Hid (kvCells x = [.string x.1, .int .i64 x.2.rev, .bool false, .string x.2.val]) := by show _ = _; unfold kvCells; rw [hgn]
          clear hgn
          have HK2 : Hid (keepB l f x = true) := by show _ = _; rw [HK.out]; simp []
          go_wp2_with (at_builtin; refine Held.out ?_)
          unfold Held
          refine wpL_new rfl _ _ 142 rfl 203 4 48 _ Try.underlying142 infoVsn rfl (by decide) u5 (fs.map kvCells) rfl ((hown.ext x1).alloc _) #[.string x.1, .int .i64 x.2.rev, .bool false, .string x.2.val] (wr.heap.size + x1.new.size) rfl (Hp.new (by simp [go_sem])) rfl hone hl1 hl2 ?_
          intro a' cap' w4 ho4 hg4 _
          have HI4 : Hid (VInv w w4 (fs ++ [x]) (.slice a' ((fs.map kvCells).length + 1) cap')) := HI.out.add (by repeat (first | exact Below.refl _ _ | assumption | with_reducible refine below_drewN ?_ _ | refine Gr.ext ?_ _ | refine Gr.alloc ?_ _ | refine Gr.drew ?_ | (refine Gr.set ?_ (by first | (simp; done) | (simp; omega)) _))) (by rw [HGN.out]; exact ho4) hg4
          clear ho4 hg4
          go_frame
          go_wp2_with fail
          exact ⟨⟨i + 1, by omega, val_int (by omega), by rw [HS.out, HK2.out]; exact HI4⟩, by simp [intOf]; omega⟩
        · rw [hgn] at d2 HK
          have HK2 : Hid (keepB l f x = false) := by show _ = _; rw [HK.out]; simp []
          go_wp2_with fail
          exact ⟨⟨i + 1, by omega, val_int (by omega), by rw [HS.out, HK2.out]; show VInv _ _ (fs ++ []) _; rw [List.append_nil]; exact HI.out.grow (by repeat (first | exact Below.refl _ _ | assumption | with_reducible refine below_drewN ?_ _ | refine Gr.ext ?_ _ | refine Gr.alloc ?_ _ | refine Gr.drew ?_ | (refine Gr.set ?_ (by first | (simp; done) | (simp; omega)) _)))⟩, by simp [intOf]; omega⟩
      · have e1 : decide ((i : Int) < n) = false := decide_eq_false (by omega)
        have e2 : ((i : Int) == n) = false := beq_eq_false_iff_ne.2 (by omega)
        have e3 : decide ((i : Int) = n) = false := decide_eq_false (by omega)
        rw [e1, e3] at HK
        clear e3
        have HK2 : Hid (keepB l f x = true) := by show _ = _; rw [HK.out]; simp []
        go_wp2_with (at_builtin; refine Held.out ?_)
        unfold Held
        refine wpL_new rfl _ _ 142 rfl 203 4 48 _ Try.underlying142 infoVsn rfl (by decide) u5 (fs.map kvCells) rfl ((hown.ext x1).alloc _) #[.string x.1, .int .i64 x.2.rev, .bool x.2.gone, .string x.2.val] (wr.heap.size + x1.new.size) rfl (Hp.new (by simp [go_sem])) rfl hone hl1 hl2 ?_
        intro a' cap' w4 ho4 hg4 _
        have HI4 : Hid (VInv w w4 (fs ++ [x]) (.slice a' ((fs.map kvCells).length + 1) cap')) := HI.out.add (by repeat (first | exact Below.refl _ _ | assumption | with_reducible refine below_drewN ?_ _ | refine Gr.ext ?_ _ | refine Gr.alloc ?_ _ | refine Gr.drew ?_ | (refine Gr.set ?_ (by first | (simp; done) | (simp; omega)) _))) ho4 hg4
        clear ho4 hg4
        go_frame
        go_wp2_with fail
        exact ⟨⟨i + 1, by omega, val_int (by omega), by rw [HS.out, HK2.out]; exact HI4⟩, by simp [intOf]; omega⟩
    · have hii : i = l.length := by omega
      subst hii
      rw [List.take_length] at HI
      have HQ : Hid (wr.heap[q]? = some (.cells (rsC s (.slice a l.length cap)) 147)) := (H.out.grown hb).blk
      obtain ⟨la, lcap, hv⟩ := HI.out.own.len
      rw [List.length_map] at hv
      subst hv
      have HFIN : Hid (∀ W, W.heap[q]? = some (.cells (rsC (s.raise f) (.slice la (l.filter (keepB l f)).length lcap)) 147) → wr.turned W (fun x => x = q) → RChg w W q (.slice a l.length cap) (s.raise f)) := by
        intro W hW ht
        have hb := HI.out.below
        have hqn : (Value.slice la (l.filter (keepB l f)).length lcap).ownBlock ≠ some q := fun e => by have := HI.out.new q e; omega
        refine ⟨_, liftL l f, ⟨hW, HI.out.own.keep fun x hx => ht.block x (HI.out.own.lt hx) fun e => hqn (e ▸ hx), H.out.tells.raise f, good_raise H.out.good f (by have := HF.out; omega)⟩, fun x hx => .inr (HI.out.new x hx), ?_⟩
        exact (World.turned.of_below hb _).trans ht fun x _ h => .inl h
      go_wp2_with fail
      go_ret
      refine ⟨rfl, HFIN.out _ ?_ ?_⟩
      · rw [setCell_heapB, if_pos rfl, setCell_heapB, if_pos rfl, HQ.out]; rfl
      · exact World.turned.set (S := fun x => x = q) (World.turned.set (S := fun x => x = q) (World.turned.refl wr _) (fun _ => rfl) _) (fun _ => rfl) _
end Go.Proofs.Ytcbbnmodjnnbeaa
