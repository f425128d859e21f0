/- Records become part of a state: the loop; a state out of records. -/
import Derived.Test.YtcbbnmodjnnbeaaWalF
set_option linter.unusedSimpArgs false
set_option linter.unusedVariables false
namespace Go.Proofs.Ytcbbnmodjnnbeaa
open Go.RowKit

theorem StOut.trans {w w1 w2 : World} {b o : Nat} {pre : List Value} {T : TypeId} {lv lv1 : Value} {S' : WSt} (hlv : ∀ k, lv1.ownBlock = some k → lv.ownBlock = some k ∨ w.heap.size ≤ k) (ht : w.turned w1 (fun k => k = b ∨ lv.ownBlock = some k)) (hbl : b < w.heap.size) (h : StOut w1 w2 b o pre T lv1 S') : StOut w w2 b o pre T lv S' := by
  obtain ⟨lv2, a, c, d⟩ := h
  have hs := ht.size
  refine ⟨lv2, a, fun k hk => ?_, ht.trans d fun k hk h => ?_⟩
  · rcases c k hk with h | h
    · exact hlv k h
    · exact .inr (by omega)
  · rcases h with h | h
    · exact .inl h
    · rcases hlv k h with h | h
      · exact .inr h
      · omega
set_option maxRecDepth 100000 in
set_option maxHeartbeats 2000000 in
theorem walTakeHard (w : World) (b o : Nat) (pre : List Value) (T : TypeId) (lv : Value) (S : WSt) (h : StaAt w b o pre T lv S) (x y : Int) : StaAt ((w.setCell ⟨b, o + 1, none⟩ (.int .i64 x)).setCell ⟨b, o + 2, none⟩ (.int .i64 y)) b o pre T lv { S with term := x, vote := y } := by
  refine ⟨?_, h.len, (h.log.set (p := ⟨b, o + 1, none⟩) h.sep _).set (p := ⟨b, o + 2, none⟩) h.sep _, h.sep⟩
  rw [cells_set (cells_set h.blk _) _, set_pre pre _ 1 _ o h.len, set_pre pre _ 2 _ o h.len]
  rfl
set_option maxRecDepth 100000 in
set_option maxHeartbeats 4000000 in
theorem walTake (w : World) (b o : Nat) (pre : List Value) (T : TypeId) (lv : Value) (S : WSt) (h : StaAt w b o pre T lv S) (a : Option Addr) (cap : Nat) (rs : List Rec) (hr : w.reads 14 (.slice a rs.length cap) (rs.map Rec.cells)) (hm : ∀ r ∈ rs, r.may = true)
    (hsep : ∀ k, (Value.slice a rs.length cap).ownBlock = some k → k ≠ b ∧ lv.ownBlock ≠ some k) (hb0 : -9000000000 ≤ S.base ∧ S.base ≤ 9000000000) (hn : S.log.length + rs.length ≤ 1000000000) :
    Calls Try.prog 98 #[.pointer (some ⟨b, o, none⟩), .slice a rs.length cap] w fun e w' => e = .returned (.tuple #[]) ∧ StOut w w' b o pre T lv (S.takes rs) := by
  have hbl := h.lt
  have HB0 : Hid (-9000000000 ≤ S.base ∧ S.base ≤ 9000000000) := hb0
  have HN : Hid (S.log.length + rs.length ≤ 1000000000) := hn
  have hn9 : rs.length ≤ 1000000000 := by omega
  have H0 : Hid (StOut w w b o pre T lv S) := ⟨lv, h, fun k hk => .inl hk, World.turned.refl _ _⟩
  clear hb0 hn h
  go_enter Try.func98, Try.ntmps98
  go_wp2_with fail
  go_loopw [8] (fun iv wr => ∃ k : Nat, k ≤ rs.length ∧ iv = .int .i64 k ∧ Hid (StOut w wr b o pre T lv (S.takes (rs.take k)))) (fun iv _ => rs.length - (intOf iv).toNat)
  case atStart => exact ⟨0, Nat.zero_le _, rfl, H0⟩
  case round =>
    clear H0
    obtain ⟨k, hk, rfl, HO⟩ := hrel
    by_cases hlt : k < rs.length
    · obtain ⟨lv1, hA, hlv, ht⟩ := HO.out
      have hs := ht.size
      have hrr : wr.reads 14 (.slice a rs.length cap) (rs.map Rec.cells) := hr.keep fun k hk => ht.block k (reads_lt hr hk) (fun e => e.elim (hsep k hk).1 (hsep k hk).2)
      obtain ⟨g1, o1, rfl, hg1, hr1⟩ := Rec.at_reads hrr hlt
      have HSN : Hid (rs.take (k + 1) = rs.take k ++ [rs[k]]) := by show _ = _; rw [List.take_succ_eq_append_getElem hlt]
      have HMK : Hid ((rs[k]).may = true) := hm _ (List.getElem_mem hlt)
      generalize rs[k] = c at hr1 HSN HMK
      obtain ⟨S1, hS1⟩ : ∃ S1, S1 = S.takes (rs.take k) := ⟨_, rfl⟩
      have HS1 : Hid (S1 = S.takes (rs.take k)) := hS1
      have HNX : Hid (S.takes (rs.take (k + 1)) = S1.one c) := by show _ = _; rw [HSN.out, WSt.takes_snoc, ← HS1.out]
      have HBS : Hid (S1.base = S.base ∧ S1.log.length ≤ S.log.length + k) := ⟨by rw [HS1.out]; exact (S.takes_base _).1, by rw [HS1.out]; have := S.takes_len (rs.take k); rw [List.length_take] at this; omega⟩
      rw [← hS1] at hA
      have HA : Hid (StaAt wr b o pre T lv1 S1) := hA
      have HLV : Hid (∀ k, lv1.ownBlock = some k → lv.ownBlock = some k ∨ w.heap.size ≤ k) := hlv
      have HT : Hid (w.turned wr (fun k => k = b ∨ lv.ownBlock = some k)) := ht
      obtain ⟨x0, x1, x2, x3, x4, x5, x6, x7, x8, x9, x10, x11, x12, x13⟩ := Rec.off hr1
      have hblr : b < wr.heap.size := by omega
      clear hr1 hrr hS1 hA hlv ht hr HO
      by_cases hk2 : c.kind = 2
      · as_aux_lemma =>
          have HK2 : Hid (S1.one c = { S1 with term := c.term, vote := c.vote }) := by show _ = _; unfold WSt.one; rw [if_pos hk2]
          obtain ⟨q0, q1, q2, q3, q4, q5, q6, qf⟩ := HA.out.cells
          rw [hk2] at x0
          have hzb : b ≠ wr.heap.size := by omega
          go_wp2_with fail
          go_region_held3 (fun w' => w'.cell? ⟨wr.heap.size, 3, none⟩ = some (.int .i64 c.term) ∧ w'.cell? ⟨wr.heap.size, 4, none⟩ = some (.int .i64 c.vote)) (first | (refine ⟨?_, ?_⟩ <;> (simp [go_sem, hzb]; done)) | go_keep) (fail)
          go_wp2_with fail
          have hT := walTakeHard wr b o pre T lv1 S1 HA.out c.term c.vote
          refine ⟨⟨k + 1, by omega, val_int (by omega), ?_⟩, by simp [intOf]; omega⟩
          show StOut _ _ _ _ _ _ _ _
          rw [HNX.out, HK2.out]
          refine StOut.trans HLV.out HT.out hbl ⟨lv1, hT.grown (by repeat (first | exact Below.refl _ _ | assumption | with_reducible refine below_drewN ?_ _ | refine Gr.ext ?_ _ | refine Gr.alloc ?_ _ | refine Gr.drew ?_ | (refine Gr.set ?_ (by first | (simp; done) | (simp; omega)) _))), fun k hk => .inl hk, ?_⟩
          exact (turned_set (S := fun k => k = b ∨ lv1.ownBlock = some k) (turned_set (S := fun k => k = b ∨ lv1.ownBlock = some k) (World.turned.refl _ _) (.inl rfl) _) (.inl rfl) _).trans (World.turned.of_below (by repeat (first | exact Below.refl _ _ | assumption | with_reducible refine below_drewN ?_ _ | refine Gr.ext ?_ _ | refine Gr.alloc ?_ _ | refine Gr.drew ?_ | (refine Gr.set ?_ (by first | (simp; done) | (simp; omega)) _))) (fun _ => False)) fun _ _ h => h.elim
      · by_cases hk3 : c.kind = 3
        · as_aux_lemma =>
            have b2 : (c.kind == 2) = false := beq_eq_false_iff_ne.2 hk2
            have b3 : (c.kind == 3) = true := by rw [hk3]; rfl
            have HK3 : Hid (c.kind = 3) := hk3
            clear hk2 hk3
            go_wp2_with fail
            refine (walTakeItem _ b o pre T lv1 S1 (HA.out.grown (by repeat (first | exact Below.refl _ _ | assumption | with_reducible refine below_drewN ?_ _ | refine Gr.ext ?_ _ | refine Gr.alloc ?_ _ | refine Gr.drew ?_ | (refine Gr.set ?_ (by first | (simp; done) | (simp; omega)) _)))) c HK3.out HMK.out (by rw [HBS.out.1]; exact HB0.out) (by have := HBS.out.2; have := HN.out; omega)).mono ?_
            rintro e w2 ⟨rfl, hout⟩
            have HX : Hid (StOut w w2 b o pre T lv (S1.one c)) := by
              refine StOut.trans HLV.out HT.out hbl ?_
              refine StOut.trans (w1 := wr.alloc (.cells #[.int .i64 c.kind, .int .i64 c.gen, .int .i64 c.index, .int .i64 c.term, .int .i64 c.vote, .int .i64 c.many, .int .i64 c.cmd.kind, .string c.cmd.key, .string c.cmd.val, .string c.cmd.old, .int .i64 c.cmd.rev, .int .i64 c.cmd.ses, .int .i64 c.cmd.seq, .string c.data] 25)) (fun k hk => .inl hk) (World.turned.of_below (by repeat (first | exact Below.refl _ _ | assumption | with_reducible refine below_drewN ?_ _ | refine Gr.ext ?_ _ | refine Gr.alloc ?_ _ | refine Gr.drew ?_ | (refine Gr.set ?_ (by first | (simp; done) | (simp; omega)) _))) _) hblr hout
            clear hout x0 x1 x2 x3 x4 x5 x6 x7 x8 x9 x10 x11 x12 x13
            go_wp2_with fail
            refine ⟨⟨k + 1, by omega, val_int (by omega), ?_⟩, by simp [intOf]; omega⟩
            show StOut _ _ _ _ _ _ _ _
            rw [HNX.out]
            exact HX.out
        · as_aux_lemma =>
            have HK : Hid (S1.one c = S1) := by show _ = _; unfold WSt.one; rw [if_neg hk2, if_neg (fun h => hk3 h.1)]
            have b2 : (c.kind == 2) = false := beq_eq_false_iff_ne.2 hk2
            have b3 : (c.kind == 3) = false := beq_eq_false_iff_ne.2 hk3
            clear hk2 hk3
            go_wp2_with fail
            refine ⟨⟨k + 1, by omega, val_int (by omega), ?_⟩, by simp [intOf]; omega⟩
            show StOut _ _ _ _ _ _ _ _
            rw [HNX.out, HK.out]
            exact StOut.trans HLV.out HT.out hbl ⟨lv1, HA.out.grown (by repeat (first | exact Below.refl _ _ | assumption | with_reducible refine below_drewN ?_ _ | refine Gr.ext ?_ _ | refine Gr.alloc ?_ _ | refine Gr.drew ?_ | (refine Gr.set ?_ (by first | (simp; done) | (simp; omega)) _))), fun k hk => .inl hk, World.turned.of_below (by repeat (first | exact Below.refl _ _ | assumption | with_reducible refine below_drewN ?_ _ | refine Gr.ext ?_ _ | refine Gr.alloc ?_ _ | refine Gr.drew ?_ | (refine Gr.set ?_ (by first | (simp; done) | (simp; omega)) _))) _⟩
    · have hkk : k = rs.length := by omega
      subst hkk
      go_wp2_with fail
      go_end0
      have := HO.out
      rw [List.take_length] at this
      exact ⟨rfl, this⟩
end Go.Proofs.Ytcbbnmodjnnbeaa
/- A state out of records; the records of a state. -/
set_option linter.unusedSimpArgs false
set_option linter.unusedVariables false
namespace Go.Proofs.Ytcbbnmodjnnbeaa
open Go.RowKit

theorem belowVia {w W w1 : World} (h1 : Below W.heap.size W w1) (h0 : Below w.heap.size w W) : Below w.heap.size w w1 := h0.trans (h1.mono h0.size)
theorem tail_slice {w : World} {g o n cap : Nat} {r : Rec} {rs : List Rec} (h : w.reads 14 (.slice (some ⟨g, o, none⟩) (n + 1) cap) ((r :: rs).map Rec.cells)) (hcap : n + 1 ≤ cap) (V : Value) (hV : V = if cap = 1 then .slice (some ⟨g, o, none⟩) n 0 else .slice (some ⟨g, o + 14, none⟩) n (cap - 1)) :
    ∃ a' c', V = .slice a' rs.length c' ∧ w.reads 14 (.slice a' rs.length c') (rs.map Rec.cells) ∧ ∀ k, (Value.slice a' rs.length c').ownBlock = some k → k = g := by
  have hn : n = rs.length := by have := reads_cap h; simp at this; exact this
  have hg : g < w.heap.size := reads_lt h rfl
  by_cases h1 : cap = 1
  · rw [if_pos h1] at hV
    have h0 : rs = [] := List.eq_nil_of_length_eq_zero (by omega)
    subst h0
    rw [hn] at hV
    exact ⟨_, _, hV, .inr ⟨g, o, 0, rfl, hg, fun i c hi => by simp at hi⟩, fun k hk => by cases hk; rfl⟩
  · rw [if_neg h1, hn] at hV
    have := reads_tail (cap' := cap - 1) h
    rw [List.length_map] at this
    exact ⟨_, _, hV, this, fun k hk => by cases hk; rfl⟩
set_option maxRecDepth 100000 in
set_option maxHeartbeats 4000000 in
theorem walStateOf (w : World) (a : Option Addr) (cap : Nat) (r : Rec) (rs : List Rec) (hr : w.reads 14 (.slice a (rs.length + 1) cap) ((r :: rs).map Rec.cells)) (hcap : rs.length + 1 ≤ cap) (hcm : cap ≤ maxLen) (hm : ∀ x ∈ r :: rs, x.may = true) (hk : r.kind = 1) (hn : rs.length ≤ 100000000) :
    Calls Try.prog 92 #[.slice a (rs.length + 1) cap] w fun e w' => ∃ lv, e = .returned (.agg ((told (r :: rs)).cellsA lv).toArray) ∧ w'.ownL 135 8 lv ((told (r :: rs)).log.map Ety.cells) ∧ (∀ k, lv.ownBlock = some k → w.heap.size ≤ k) ∧ Below w.heap.size w w' := by
  unfold maxLen at hcm
  have hr0 := hr
  obtain ⟨g1, o1, rfl, hg1, hr1⟩ := Rec.at_reads (rs := r :: rs) hr (k := 0) (by simp)
  rw [Nat.zero_mul, Nat.add_zero] at hr1
  have hr1' : w.rangeAt g1 o1 r.cells := hr1
  obtain ⟨x0, x1, x2, x3, x4, x5, x6, x7, x8, x9, x10, x11, x12, x13⟩ := Rec.off hr1'
  have HR : Hid (w.reads 14 (.slice (some ⟨g1, o1, none⟩) (rs.length + 1) cap) ((r :: rs).map Rec.cells)) := hr0
  have HM : Hid (∀ x ∈ rs, x.may = true) := fun x hx => hm x (by simp [hx])
  have hbd := rec_bd1 r (hm r (by simp)) hk
  have HDS : Hid (r.data.size ≤ 281474976710656) := by show _ ≤ _; omega
  have HBD : Hid (0 ≤ r.index ∧ r.index ≤ 1000000) := ⟨hbd.2.2.1, hbd.2.2.2.1⟩
  obtain ⟨n, hn0⟩ : ∃ n, n = rs.length := ⟨_, rfl⟩
  rw [← hn0] at hcap ⊢
  have HN : Hid (n = rs.length) := hn0
  have hn1 : 0 < n + 1 := Nat.succ_pos _
  have hn2 : (0 : Int) < (n : Int) + 1 := by omega
  have HNB : Hid (n ≤ 100000000) := by show _ ≤ _; omega
  clear hr hr0 hr1 hr1' hm hbd hk hn0 hn
  go_enter Try.func92, Try.ntmps92
  go_wp2_with fail
  refine world_any (F := fun W => Below w.heap.size w W ∧ W.heap.size = w.heap.size + 2 ∧ W.heap[w.heap.size]? = some (.cells #[.int .i64 0, .int .i64 0, .int .i64 0, .int .i64 0, .int .i64 0, .string ⟨#[]⟩, .slice none 0 0] 90) ∧ W.heap[w.heap.size + 1]? = some (.cells #[.int .i64 r.kind, .int .i64 r.gen, .int .i64 r.index, .int .i64 r.term, .int .i64 r.vote, .int .i64 r.many, .int .i64 r.cmd.kind, .string r.cmd.key, .string r.cmd.val, .string r.cmd.old, .int .i64 r.cmd.rev, .int .i64 r.cmd.ses, .int .i64 r.cmd.seq, .string r.data] 25)) ⟨(by repeat (first | exact Below.refl _ _ | assumption | with_reducible refine below_drewN ?_ _ | refine Gr.ext ?_ _ | refine Gr.alloc ?_ _ | refine Gr.drew ?_ | (refine Gr.set ?_ (by first | (simp; done) | (simp; omega)) _))), by simp, Hp.alloc (heap_alloc_new w _) _, Hp.new (by simp)⟩ ?_
  rintro W1 ⟨hB1, hsz, hz2, hz3⟩
  have HB1 : Hid (Below w.heap.size w W1) := hB1
  have HSZ : Hid (W1.heap.size = w.heap.size + 2) := hsz
  have HZ2 : Hid (W1.heap[w.heap.size]? = some (.cells #[.int .i64 0, .int .i64 0, .int .i64 0, .int .i64 0, .int .i64 0, .string ⟨#[]⟩, .slice none 0 0] 90)) := hz2
  obtain ⟨z, hz⟩ : ∃ z, z = w.heap.size + 1 := ⟨_, rfl⟩
  obtain ⟨y, hy⟩ : ∃ y, y = w.heap.size := ⟨_, rfl⟩
  rw [← hz] at hz3 ⊢
  have HZ : Hid (z = w.heap.size + 1) := hz
  have HY : Hid (y = w.heap.size) := hy
  have hzl : z < W1.heap.size := by omega
  have hyl : y < W1.heap.size := by omega
  rw [← hy] at ⊢
  clear hB1 hsz hz hy x0 x1 x2 x3 x4 x5 x6 x7 x8 x9 x10 x11 x12 x13 hz2
  obtain ⟨-, z1, z2, z3, -, -, -, -, -, -, -, -, -, z13⟩ := rec_at hz3
  clear hz3
  have SS : Hid (∀ w', Below W1.heap.size W1 w' → w'.cell? ⟨z, 1, none⟩ = some (.int .i64 r.gen) ∧ w'.cell? ⟨z, 2, none⟩ = some (.int .i64 r.index) ∧ w'.cell? ⟨z, 3, none⟩ = some (.int .i64 r.term) ∧ w'.cell? ⟨z, 13, none⟩ = some (.string r.data)) := by
    intro w' hb
    have hZ : w'.heap[z]? = W1.heap[z]? := hb.block z hzl
    exact ⟨(World.cell?_of_block (a := ⟨z, 1, none⟩) hZ).trans z1, (World.cell?_of_block (a := ⟨z, 2, none⟩) hZ).trans z2, (World.cell?_of_block (a := ⟨z, 3, none⟩) hZ).trans z3, (World.cell?_of_block (a := ⟨z, 13, none⟩) hZ).trans z13⟩
  go_region_held3 (fun w' => w'.cell? ⟨z, 1, none⟩ = some (.int .i64 r.gen) ∧ w'.cell? ⟨z, 2, none⟩ = some (.int .i64 r.index) ∧ w'.cell? ⟨z, 3, none⟩ = some (.int .i64 r.term) ∧ w'.cell? ⟨z, 13, none⟩ = some (.string r.data)) (first | (refine ⟨?_, ?_, ?_, ?_⟩ <;> (repeat (first | exact z1 | exact z2 | exact z3 | exact z13 | assumption | (show World.cell? (World.alloc W1 _) _ = _; rw [World.cell?_alloc_lt _ _ _ (show z < _ from hzl)]) | (rw [World.cell?_alloc_lt _ _ _ (show z < _ from by first | exact hzl | (simp [World.ext_size]; omega))]) | (rw [World.ext_cell _ _ _ _ (show z < _ from by first | exact hzl | (simp; omega))]))) <;> done) | go_keep)
    ((go_at_call 54; refine (stringsClone r.data _ HDS.out).mono ?_; rintro e w2 ⟨rfl, hb2⟩; obtain ⟨x2, rfl⟩ := Below.ext hb2; clear hb2))
  · -- way
    refine world_any (F := fun W => Below W1.heap.size W1 W ∧ ∃ sb, sb = W1.heap.size + x2.new.size ∧ W1.heap.size ≤ sb ∧ StaAt W sb 0 [] 90 (.slice none 0 0) (WSt.ofBase r)) ⟨(by repeat (first | exact Below.refl _ _ | assumption | with_reducible refine below_drewN ?_ _ | refine Gr.ext ?_ _ | refine Gr.alloc ?_ _ | refine Gr.drew ?_ | (refine Gr.set ?_ (by first | (simp; done) | (simp; omega)) _))), _, rfl, Nat.le_add_right _ _, ⟨Hp.new (by simp [World.ext_size]), rfl, World.ownL.nil _ _ _, fun e => by cases e⟩⟩ ?_
    rintro W2 ⟨hB2, sb, hsb, hsbl, hA2⟩
    rw [← hsb]
    have HW2 : Hid (Below w.heap.size w W2) := HB1.out.trans (hB2.mono HB1.out.size)
    have HA2 : Hid (StaAt W2 sb 0 [] 90 (.slice none 0 0) (WSt.ofBase r)) := hA2
    have HSB : Hid (W1.heap.size ≤ sb) := hsbl
    have HY2 : Hid (W2.heap[y]? = some (.cells #[.int .i64 0, .int .i64 0, .int .i64 0, .int .i64 0, .int .i64 0, .string ⟨#[]⟩, .slice none 0 0] 90)) := by
      show _ = _
      rw [hB2.block y hyl, HY.out]; exact HZ2.out
    clear hB2 hsb hsbl hA2
    have CT : Hid (∀ (V : Value) (_ : V = if cap = 1 then .slice (some ⟨g1, o1, none⟩) n 0 else .slice (some ⟨g1, o1 + 14, none⟩) n (cap - 1)) (W : World), Below W2.heap.size W2 W → Calls Try.prog 98 #[.pointer (some ⟨sb, 0, none⟩), V] W fun e w' => e = .returned (.tuple #[]) ∧ StOut W2 w' sb 0 [] 90 (.slice none 0 0) ((WSt.ofBase r).takes rs)) := by
      intro V hV W hW
      have hr2 : W2.reads 14 (.slice (some ⟨g1, o1, none⟩) (n + 1) cap) ((r :: rs).map Rec.cells) := by
        have := HR.out.keep (w' := W2) fun k hk => HW2.out.block k (reads_lt HR.out hk)
        rw [← HN.out] at this; exact this
      obtain ⟨a', c', rfl, hrd, hk1⟩ := tail_slice hr2 hcap V hV
      have hrdW := hrd.keep (w' := W) fun k hk => hW.block k (reads_lt hrd hk)
      have hs1 := HB1.out.size
      refine (walTake W sb 0 [] _ _ _ (HA2.out.grown hW) a' c' rs hrdW HM.out (fun k hk => ⟨by have := hk1 k hk; have := HSB.out; omega, fun e => by cases e⟩) (by have := HBD.out; show -9000000000 ≤ r.index ∧ r.index ≤ 9000000000; omega) (by have := HN.out; have := HNB.out; show 0 + rs.length ≤ _; omega)).mono ?_
      rintro e w' ⟨rfl, hout⟩
      exact ⟨rfl, StOut.trans (fun k hk => .inl hk) (World.turned.of_below hW _) HA2.out.lt hout⟩
    by_cases h1 : cap = 1
    all_goals
      go_wp2_with fail
      refine (CT.out _ (by simp [h1]) _ (by repeat (first | exact Below.refl _ _ | assumption | with_reducible refine below_drewN ?_ _ | refine Gr.ext ?_ _ | refine Gr.alloc ?_ _ | refine Gr.drew ?_ | (refine Gr.set ?_ (by first | (simp; done) | (simp; omega)) _)))).mono ?_
      rintro e w3 ⟨rfl, lv, hA3, hlv, ht3⟩
      have HA3 : Hid (StaAt w3 sb 0 [] 90 lv (told (r :: rs))) := hA3
      have hys : y ≠ sb := by have := HSB.out; omega
      have hy2 : y < W2.heap.size := (Array.getElem?_eq_some_iff.1 HY2.out).1
      have hY3 := (ht3.block y hy2 (fun e => e.elim hys (fun e => by cases e))).trans HY2.out
      have hB3 : Below w.heap.size w w3 := ((World.turned.of_below HW2.out (fun _ => False)).trans ht3 fun k hk h => by
        have h1 := HB1.out.size
        rcases h with h | h
        · have := HSB.out; omega
        · cases h).below fun _ _ h => h
      have HB3 : Hid (Below w.heap.size w w3) := hB3
      have HLV : Hid (∀ k, lv.ownBlock = some k → W2.heap.size ≤ k) := fun k hk => (hlv k hk).elim (fun e => by cases e) id
      obtain ⟨al, nl, cl, rfl⟩ : ∃ a n c, lv = .slice a n c := by obtain ⟨a, c, h⟩ := hA3.log.len; exact ⟨_, _, _, h⟩
      obtain ⟨q0, q1, q2, q3, q4, q5, q6, qf⟩ := HA3.out.cells
      have y0 : w3.cell? ⟨y, 0, none⟩ = some (.int .i64 0) := by simp only [World.cell?, hY3]; rfl
      have y1 : w3.cell? ⟨y, 1, none⟩ = some (.int .i64 0) := by simp only [World.cell?, hY3]; rfl
      have y2 : w3.cell? ⟨y, 2, none⟩ = some (.int .i64 0) := by simp only [World.cell?, hY3]; rfl
      have y3 : w3.cell? ⟨y, 3, none⟩ = some (.int .i64 0) := by simp only [World.cell?, hY3]; rfl
      have y4 : w3.cell? ⟨y, 4, none⟩ = some (.int .i64 0) := by simp only [World.cell?, hY3]; rfl
      have y5 : w3.cell? ⟨y, 5, none⟩ = some (.string ⟨#[]⟩) := by simp only [World.cell?, hY3]; rfl
      have y6 : w3.cell? ⟨y, 6, none⟩ = some (.slice none 0 0) := by simp only [World.cell?, hY3]; rfl
      have yf : ∀ q, w3.frozen? ⟨y, q, none⟩ = false := fun q => by simp [World.frozen?, hY3]
      clear hA3 hlv ht3 hB3 hY3 CT
      go_wp2_with fail
      have hy0 := HY.out
      show bodyPost _ _ _ _ _ _
      refine bodyPost_ret (v := .agg ((told (r :: rs)).cellsA (.slice al nl cl)).toArray) (by simp [results, Try.results92, go_sem, WSt.cellsA, y0, y1, y2, y3, y4, y5, y6]) rfl ⟨_, rfl, HA3.out.log.keep fun k hk => ?_, fun k hk => Nat.le_trans HW2.out.size (HLV.out k hk), ?_⟩
      · have hne : k ≠ y := fun e => by have := HLV.out k hk; omega
        simp only [setCell_heapB, if_neg hne]
      · have t := fun (W : World) (h : Below w.heap.size w W) (o : Nat) (u : Value) => Gr.set (p := ⟨y, o, none⟩) h (by show w.heap.size ≤ y; omega) u
        exact t _ (t _ (t _ (t _ (t _ (t _ (t _ HB3.out _ _) _ _) _ _) _ _) _ _) _ _) _ _
  · -- way
    refine world_any (F := fun W => Below W1.heap.size W1 W ∧ ∃ sb, sb = W1.heap.size ∧ W1.heap.size ≤ sb ∧ StaAt W sb 0 [] 90 (.slice none 0 0) (WSt.ofBase r)) ⟨(by repeat (first | exact Below.refl _ _ | assumption | with_reducible refine below_drewN ?_ _ | refine Gr.ext ?_ _ | refine Gr.alloc ?_ _ | refine Gr.drew ?_ | (refine Gr.set ?_ (by first | (simp; done) | (simp; omega)) _))), _, rfl, Nat.le_refl _, ⟨Hp.ext (Hp.drew (Hp.new (by simp))) _, rfl, World.ownL.nil _ _ _, fun e => by cases e⟩⟩ ?_
    rintro W2 ⟨hB2, sb, hsb, hsbl, hA2⟩
    rw [← hsb]
    have HW2 : Hid (Below w.heap.size w W2) := HB1.out.trans (hB2.mono HB1.out.size)
    have HA2 : Hid (StaAt W2 sb 0 [] 90 (.slice none 0 0) (WSt.ofBase r)) := hA2
    have HSB : Hid (W1.heap.size ≤ sb) := hsbl
    have HY2 : Hid (W2.heap[y]? = some (.cells #[.int .i64 0, .int .i64 0, .int .i64 0, .int .i64 0, .int .i64 0, .string ⟨#[]⟩, .slice none 0 0] 90)) := by
      show _ = _
      rw [hB2.block y hyl, HY.out]; exact HZ2.out
    clear hB2 hsb hsbl hA2
    have CT : Hid (∀ (V : Value) (_ : V = if cap = 1 then .slice (some ⟨g1, o1, none⟩) n 0 else .slice (some ⟨g1, o1 + 14, none⟩) n (cap - 1)) (W : World), Below W2.heap.size W2 W → Calls Try.prog 98 #[.pointer (some ⟨sb, 0, none⟩), V] W fun e w' => e = .returned (.tuple #[]) ∧ StOut W2 w' sb 0 [] 90 (.slice none 0 0) ((WSt.ofBase r).takes rs)) := by
      intro V hV W hW
      have hr2 : W2.reads 14 (.slice (some ⟨g1, o1, none⟩) (n + 1) cap) ((r :: rs).map Rec.cells) := by
        have := HR.out.keep (w' := W2) fun k hk => HW2.out.block k (reads_lt HR.out hk)
        rw [← HN.out] at this; exact this
      obtain ⟨a', c', rfl, hrd, hk1⟩ := tail_slice hr2 hcap V hV
      have hrdW := hrd.keep (w' := W) fun k hk => hW.block k (reads_lt hrd hk)
      have hs1 := HB1.out.size
      refine (walTake W sb 0 [] _ _ _ (HA2.out.grown hW) a' c' rs hrdW HM.out (fun k hk => ⟨by have := hk1 k hk; have := HSB.out; omega, fun e => by cases e⟩) (by have := HBD.out; show -9000000000 ≤ r.index ∧ r.index ≤ 9000000000; omega) (by have := HN.out; have := HNB.out; show 0 + rs.length ≤ _; omega)).mono ?_
      rintro e w' ⟨rfl, hout⟩
      exact ⟨rfl, StOut.trans (fun k hk => .inl hk) (World.turned.of_below hW _) HA2.out.lt hout⟩
    by_cases h1 : cap = 1
    all_goals
      go_wp2_with fail
      refine (CT.out _ (by simp [h1]) _ (by repeat (first | exact Below.refl _ _ | assumption | with_reducible refine below_drewN ?_ _ | refine Gr.ext ?_ _ | refine Gr.alloc ?_ _ | refine Gr.drew ?_ | (refine Gr.set ?_ (by first | (simp; done) | (simp; omega)) _)))).mono ?_
      rintro e w3 ⟨rfl, lv, hA3, hlv, ht3⟩
      have HA3 : Hid (StaAt w3 sb 0 [] 90 lv (told (r :: rs))) := hA3
      have hys : y ≠ sb := by have := HSB.out; omega
      have hy2 : y < W2.heap.size := (Array.getElem?_eq_some_iff.1 HY2.out).1
      have hY3 := (ht3.block y hy2 (fun e => e.elim hys (fun e => by cases e))).trans HY2.out
      have hB3 : Below w.heap.size w w3 := ((World.turned.of_below HW2.out (fun _ => False)).trans ht3 fun k hk h => by
        have h1 := HB1.out.size
        rcases h with h | h
        · have := HSB.out; omega
        · cases h).below fun _ _ h => h
      have HB3 : Hid (Below w.heap.size w w3) := hB3
      have HLV : Hid (∀ k, lv.ownBlock = some k → W2.heap.size ≤ k) := fun k hk => (hlv k hk).elim (fun e => by cases e) id
      obtain ⟨al, nl, cl, rfl⟩ : ∃ a n c, lv = .slice a n c := by obtain ⟨a, c, h⟩ := hA3.log.len; exact ⟨_, _, _, h⟩
      obtain ⟨q0, q1, q2, q3, q4, q5, q6, qf⟩ := HA3.out.cells
      have y0 : w3.cell? ⟨y, 0, none⟩ = some (.int .i64 0) := by simp only [World.cell?, hY3]; rfl
      have y1 : w3.cell? ⟨y, 1, none⟩ = some (.int .i64 0) := by simp only [World.cell?, hY3]; rfl
      have y2 : w3.cell? ⟨y, 2, none⟩ = some (.int .i64 0) := by simp only [World.cell?, hY3]; rfl
      have y3 : w3.cell? ⟨y, 3, none⟩ = some (.int .i64 0) := by simp only [World.cell?, hY3]; rfl
      have y4 : w3.cell? ⟨y, 4, none⟩ = some (.int .i64 0) := by simp only [World.cell?, hY3]; rfl
      have y5 : w3.cell? ⟨y, 5, none⟩ = some (.string ⟨#[]⟩) := by simp only [World.cell?, hY3]; rfl
      have y6 : w3.cell? ⟨y, 6, none⟩ = some (.slice none 0 0) := by simp only [World.cell?, hY3]; rfl
      have yf : ∀ q, w3.frozen? ⟨y, q, none⟩ = false := fun q => by simp [World.frozen?, hY3]
      clear hA3 hlv ht3 hB3 hY3 CT
      go_wp2_with fail
      have hy0 := HY.out
      show bodyPost _ _ _ _ _ _
      refine bodyPost_ret (v := .agg ((told (r :: rs)).cellsA (.slice al nl cl)).toArray) (by simp [results, Try.results92, go_sem, WSt.cellsA, y0, y1, y2, y3, y4, y5, y6]) rfl ⟨_, rfl, HA3.out.log.keep fun k hk => ?_, fun k hk => Nat.le_trans HW2.out.size (HLV.out k hk), ?_⟩
      · have hne : k ≠ y := fun e => by have := HLV.out k hk; omega
        simp only [setCell_heapB, if_neg hne]
      · have t := fun (W : World) (h : Below w.heap.size w W) (o : Nat) (u : Value) => Gr.set (p := ⟨y, o, none⟩) h (by show w.heap.size ≤ y; omega) u
        exact t _ (t _ (t _ (t _ (t _ (t _ (t _ HB3.out _ _) _ _) _ _) _ _) _ _) _ _) _ _
end Go.Proofs.Ytcbbnmodjnnbeaa
/- The records of a state, as the program makes them. -/
set_option linter.unusedSimpArgs false
set_option linter.unusedVariables false
namespace Go.Proofs.Ytcbbnmodjnnbeaa
open Go.RowKit

theorem Ety.off {w : World} {b p : Nat} {e : Ety} (h : w.rangeAt b p e.cells) :
    w.cell? ⟨b, p, none⟩ = some (.int .i64 e.term) ∧ w.cell? ⟨b, p + 1, none⟩ = some (.int .i64 e.cmd.kind) ∧ w.cell? ⟨b, p + 2, none⟩ = some (.string e.cmd.key) ∧ w.cell? ⟨b, p + 3, none⟩ = some (.string e.cmd.val) ∧ w.cell? ⟨b, p + 4, none⟩ = some (.string e.cmd.old) ∧ w.cell? ⟨b, p + 5, none⟩ = some (.int .i64 e.cmd.rev) ∧ w.cell? ⟨b, p + 6, none⟩ = some (.int .i64 e.cmd.ses) ∧ w.cell? ⟨b, p + 7, none⟩ = some (.int .i64 e.cmd.seq) :=
  ⟨h 0 _ rfl, h 1 _ rfl, h 2 _ rfl, h 3 _ rfl, h 4 _ rfl, h 5 _ rfl, h 6 _ rfl, h 7 _ rfl⟩
theorem Ety.at_reads {w : World} {a : Option Addr} {n cap : Nat} {rs : List Ety} (h : w.reads 8 (.slice a n cap) (rs.map Ety.cells)) {k : Nat} (hk : k < rs.length) : ∃ g o, a = some ⟨g, o, none⟩ ∧ g < w.heap.size ∧ w.rangeAt g (o + k * 8) rs[k].cells := by
  rcases h with ⟨_, h2⟩ | ⟨g, off, cap', hv, hg, hc⟩
  · have : rs = [] := by simpa using h2
    subst this; simp at hk
  · injection hv with h1 h2 h3
    exact ⟨g, off, h1, hg, (hc k rs[k].cells (by rw [List.getElem?_map, List.getElem?_eq_getElem hk]; rfl)).2⟩
theorem itemsR_take (b : Int) (l : List Ety) (k : Nat) (hk : k < l.length) : itemsR b (l.take (k + 1)) = itemsR b (l.take k) ++ [itemR (b + 1 + k) l[k]] := by
  rw [List.take_succ_eq_append_getElem hk, itemsR_snoc, List.length_take, Nat.min_eq_left (Nat.le_of_lt hk)]
theorem two_recs (r s : Rec) : (#[.int .i64 r.kind, .int .i64 r.gen, .int .i64 r.index, .int .i64 r.term, .int .i64 r.vote, .int .i64 r.many, .int .i64 r.cmd.kind, .string r.cmd.key, .string r.cmd.val, .string r.cmd.old, .int .i64 r.cmd.rev, .int .i64 r.cmd.ses, .int .i64 r.cmd.seq, .string r.data, .int .i64 s.kind, .int .i64 s.gen, .int .i64 s.index, .int .i64 s.term, .int .i64 s.vote, .int .i64 s.many, .int .i64 s.cmd.kind, .string s.cmd.key, .string s.cmd.val, .string s.cmd.old, .int .i64 s.cmd.rev, .int .i64 s.cmd.ses, .int .i64 s.cmd.seq, .string s.data] : Array Value) = ([r, s].flatMap Rec.cells).toArray := rfl
theorem OwnR.two {w : World} (base : Nat) (hb : base ≤ w.heap.size) (r s : Rec) : OwnR (w.alloc (.cells ([r, s].flatMap Rec.cells).toArray 25)) base (.slice (some ⟨w.heap.size, 0, none⟩) 2 2) [r, s] :=
  ⟨rfl, .inr ⟨w.heap.size, 2, _, rfl, hb, heap_alloc_new w _, Nat.le_refl _, by unfold maxLen; decide, rfl, by rfl⟩⟩
set_option maxRecDepth 100000 in
set_option maxHeartbeats 4000000 in
theorem walRecordsOf (w : World) (S : WSt) (a : Option Addr) (cap : Nat) (hr : S.log ≠ [] → w.reads 8 (.slice a S.log.length cap) (S.log.map Ety.cells)) (hn : S.log.length ≤ 100000000) :
    Calls Try.prog 144 #[.agg (S.cellsA (.slice a S.log.length cap)).toArray] w fun e w' => ∃ v l, e = .returned v ∧ OwnR w' w.heap.size v (S.baseR :: S.hardR :: l) ∧ l.length = S.log.length ∧ (0 ≤ S.base → S.base ≤ 1000000 → l = itemsR S.base S.log) ∧ Below w.heap.size w w' := by
  unfold WSt.cellsA
  have HR : Hid (S.log ≠ [] → w.reads 8 (.slice a S.log.length cap) (S.log.map Ety.cells)) := hr
  clear hr
  go_enter Try.func144, Try.ntmps144
  go_wp2_with fail
  go_loopw [3, 28] (fun v iv wr => ∃ (k : Nat) (l : List Rec), k ≤ S.log.length ∧ iv = .int .i64 k ∧ OwnR wr (w.heap.size + 1) v (S.baseR :: S.hardR :: l) ∧ l.length = k ∧ Hid (0 ≤ S.base → S.base ≤ 1000000 → l = itemsR S.base (S.log.take k)) ∧ wr.heap[w.heap.size]? = some (.cells #[.int .i64 S.gen, .int .i64 S.term, .int .i64 S.vote, .int .i64 S.base, .int .i64 S.bterm, .string S.data, .slice a S.log.length cap] 90) ∧ Below w.heap.size w wr) (fun _ iv _ => S.log.length - (intOf iv).toNat)
  case atStart =>
    have h := OwnR.two (w := w.alloc (.cells #[.int .i64 S.gen, .int .i64 S.term, .int .i64 S.vote, .int .i64 S.base, .int .i64 S.bterm, .string S.data, .slice a S.log.length cap] 90)) (w.heap.size + 1) (by simp) S.baseR S.hardR
    rw [World.size_alloc] at h
    exact ⟨0, [], Nat.zero_le _, rfl, h, rfl, fun _ _ => rfl, Hp.alloc (heap_alloc_new w _) _, (by repeat (first | exact Below.refl _ _ | assumption | with_reducible refine below_drewN ?_ _ | refine Gr.ext ?_ _ | refine Gr.alloc ?_ _ | refine Gr.drew ?_ | (refine Gr.set ?_ (by first | (simp; done) | (simp; omega)) _)))⟩
  case round =>
    obtain ⟨k, l, hk, rfl, ho, hl, HI, hbx, hb⟩ := hrel
    have hbs := hb.size
    have hbz : w.heap.size < wr.heap.size := (Array.getElem?_eq_some_iff.1 hbx).1
    have b3 : wr.cell? ⟨w.heap.size, 3, none⟩ = some (.int .i64 S.base) := by simp only [World.cell?, hbx]; rfl
    by_cases hlt : k < S.log.length
    · have hne : S.log ≠ [] := fun e => by rw [e] at hlt; simp at hlt
      have hrr : wr.reads 8 (.slice a S.log.length cap) (S.log.map Ety.cells) := (HR.out hne).keep fun k hk => hb.block k (reads_lt (HR.out hne) hk)
      obtain ⟨g1, o1, rfl, hg1, hr1⟩ := Ety.at_reads hrr hlt
      have HSN := itemsR_take S.base S.log k hlt
      have HSN' : Hid (itemsR S.base (S.log.take (k + 1)) = itemsR S.base (S.log.take k) ++ [itemR (S.base + 1 + k) S.log[k]]) := HSN
      clear HSN
      generalize S.log[k] = c at hr1 HSN'
      obtain ⟨x0, x1, x2, x3, x4, x5, x6, x7⟩ := Ety.off hr1
      have HBX : Hid (wr.heap[w.heap.size]? = some (.cells #[.int .i64 S.gen, .int .i64 S.term, .int .i64 S.vote, .int .i64 S.base, .int .i64 S.bterm, .string S.data, .slice (some ⟨g1, o1, none⟩) S.log.length cap] 90)) := hbx
      have HL : Hid (l.length = k) := hl
      have hn1 : (S.baseR :: S.hardR :: l).length ≤ 100000000000 := by simp only [List.length_cons]; omega
      obtain ⟨ix, hix⟩ : ∃ ix, wrap64 (wrap64 (S.base + 1) + (k : Int)) = ix := ⟨_, rfl⟩
      have HIX : Hid (0 ≤ S.base → S.base ≤ 1000000 → ix = S.base + 1 + k) := fun h0 h1 => by rw [← hix]; unfold wrap64; omega
      clear hr1 hrr hbx hl
      go_wp2_with (at_builtin; refine Held.out ?_)
      unfold Held
      refine wpR_new rfl _ _ rfl (w.heap.size + 1) u3 (S.baseR :: S.hardR :: l) rfl (by repeat (first | with_reducible exact ho | with_reducible refine OwnR.alloc ?_ _ | with_reducible refine OwnR.ext ?_ _)) ⟨3, 0, ix, c.term, 0, 0, c.cmd, ⟨#[]⟩⟩ _ rfl (new_cells' (by simp [go_sem]) rfl) hn1 (by simp; omega) ?_
      intro v' w' ho' hg'
      have hv3 : ∀ k, u3.ownBlock = some k → w.heap.size + 1 ≤ k := fun k hk => (ho.lt hk).1
      have hb' : Below w.heap.size w w' := Below.grown ((by repeat (first | exact Below.refl _ _ | assumption | with_reducible refine below_drewN ?_ _ | refine Gr.ext ?_ _ | refine Gr.alloc ?_ _ | refine Gr.drew ?_ | (refine Gr.set ?_ (by first | (simp; done) | (simp; omega)) _)))) hg'.g (by simp; omega) (fun k hk => by have := hv3 k hk; omega)
      have hx' : w'.heap[w.heap.size]? = _ := (hg'.keep (by simp; omega) (fun e => by have := hv3 _ e; omega)).trans (Hp.alloc (Hp.alloc HBX.out _) _)
      have HX' : Hid (w'.heap[w.heap.size]? = some (.cells #[.int .i64 S.gen, .int .i64 S.term, .int .i64 S.vote, .int .i64 S.base, .int .i64 S.bterm, .string S.data, .slice (some ⟨g1, o1, none⟩) S.log.length cap] 90)) := hx'
      have HI' : Hid (0 ≤ S.base → S.base ≤ 1000000 → l ++ [⟨3, 0, ix, c.term, 0, 0, c.cmd, ⟨#[]⟩⟩] = itemsR S.base (S.log.take (k + 1))) := by
        intro h0 h1
        rw [HSN'.out, HI.out h0 h1, HIX.out h0 h1]; rfl
      clear hg' hx' ho hb HI
      go_wp2_with fail
      exact ⟨⟨k + 1, _, by omega, val_int (by omega), ho', by simp [HL.out], HI', HX'.out, hb'⟩, by simp [intOf]; omega⟩
    · have hkk : k = S.log.length := by omega
      subst hkk
      have HL : Hid (l.length = S.log.length) := hl
      clear hl
      go_wp2_with fail
      go_ret
      have h := HI.out
      rw [List.take_length] at h
      exact ⟨_, l, rfl, ownsRow_base ho fun k hk => by have := (ho.lt hk).1; omega, HL.out, h, hb⟩
end Go.Proofs.Ytcbbnmodjnnbeaa
