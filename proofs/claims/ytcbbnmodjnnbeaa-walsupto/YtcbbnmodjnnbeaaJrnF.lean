/- The document's Told. -/
import Derived.Test.YtcbbnmodjnnbeaaJrnG
import Derived.Test.YtcbbnmodjnnbeaaWalM
set_option linter.unusedSimpArgs false
set_option linter.unusedVariables false
namespace Go.Proofs.Ytcbbnmodjnnbeaa
open Go.RowKit

/-- In the midst of Told: the state is in the second block, the first is the result's. -/
def ToldIn (w wr : World) (S : WSt) : Prop :=
  ∃ lv, StaAt wr (w.heap.size + 1) 0 [] 90 lv S ∧ (∀ x, lv.ownBlock = some x → w.heap.size + 2 ≤ x) ∧ wr.heap[w.heap.size]? = some (.cells #[.int .i64 0, .int .i64 0, .int .i64 0, .int .i64 0, .int .i64 0, .string ⟨#[]⟩, .slice none 0 0] 90) ∧ Below w.heap.size w wr
set_option maxRecDepth 100000 in
set_option maxHeartbeats 8000000 in
theorem refTold (w : World) (a : Option Addr) (cap : Nat) (r : Rec) (rs : List Rec) (hr : w.reads 14 (.slice a (rs.length + 1) cap) ((r :: rs).map Rec.cells)) (hm : ∀ x ∈ r :: rs, x.may = true) (hk : ∀ x ∈ rs, x.kind ≠ 1) (hk1 : r.kind = 1) (hn : rs.length ≤ 100000000) :
    Calls Try.prog 178 #[.slice a (rs.length + 1) cap] w fun e w' => ∃ lv, e = .returned (.agg ((told (r :: rs)).cellsA lv).toArray) ∧ w'.ownL 135 8 lv ((told (r :: rs)).log.map Ety.cells) ∧ (∀ k, lv.ownBlock = some k → w.heap.size ≤ k) ∧ Below w.heap.size w w' := by
  have hr0 : w.reads 14 (.slice a (r :: rs).length cap) ((r :: rs).map Rec.cells) := hr
  obtain ⟨g1, o1, rfl, hg1, hr1⟩ := Rec.at_reads hr0 (k := 0) (by simp)
  have hr2 : w.rangeAt g1 (o1 + 0 * 14) r.cells := hr1
  obtain ⟨x0, x1, x2, x3, x4, x5, x6, x7, x8, x9, x10, x11, x12, x13⟩ := Rec.off hr2
  simp only [Nat.zero_mul, Nat.add_zero] at x1 x2 x3 x13
  have HR : Hid (w.reads 14 (.slice (some ⟨g1, o1, none⟩) (r :: rs).length cap) ((r :: rs).map Rec.cells)) := hr
  have HM : Hid (∀ x ∈ rs, x.may = true) := fun x hx => hm x (by simp [hx])
  have HK : Hid (∀ x ∈ rs, x.kind ≠ 1) := hk
  have HN : Hid (rs.length ≤ 100000000) := hn
  obtain ⟨n, hnn⟩ : ∃ n, n = rs.length := ⟨_, rfl⟩
  have HNL : Hid (n = rs.length) := hnn
  have HRI : Hid (0 ≤ r.index ∧ r.index ≤ 1000000) := by
    have hb := hm r (by simp)
    simp [Rec.may, hk1, numB] at hb
    exact ⟨by omega, by omega⟩
  rw [← hnn]
  have hn1 : n ≤ 100000000 := by omega
  clear hr hr0 hr1 hr2 hm hk hn hnn x0 x4 x5 x6 x7 x8 x9 x10 x11 x12
  go_enter Try.func178, Try.ntmps178
  go_wp2_with fail
  go_region
  go_wp2_with fail
  go_loopw [4] (fun iv wr => ∃ k : Nat, k ≤ n ∧ iv = .int .i64 ((k + 1 : Nat) : Int) ∧ Hid (ToldIn w wr ((WSt.ofBase r).takes (rs.take k)))) (fun iv _ => n + 1 - (intOf iv).toNat)
  case atStart =>
    refine ⟨0, Nat.zero_le _, rfl, .slice none 0 0, ⟨?_, rfl, World.ownL.nil _ _ _, fun h => by cases h⟩, (fun x hx => by cases hx), ?_, (by repeat (first | exact Below.refl _ _ | assumption | with_reducible refine below_drewN ?_ _ | refine Gr.ext ?_ _ | refine Gr.alloc ?_ _ | refine Gr.drew ?_ | (refine Gr.set ?_ (by first | (simp; done) | (simp; omega)) _)))⟩
    · exact Hp.new (by simp)
    · exact (Below.heap_alloc _ _ _ (by simp)).trans (heap_alloc_new w _)
  case round =>
    clear x1 x2 x3 x13
    obtain ⟨k, hk, rfl, HI⟩ := hrel
    by_cases hlt : k < n
    · have hlt' : k < rs.length := by rw [← HNL.out]; exact hlt
      obtain ⟨lv, hA, hlv, hR, hb⟩ := HI.out
      have hrr : wr.reads 14 (.slice (some ⟨g1, o1, none⟩) (r :: rs).length cap) ((r :: rs).map Rec.cells) := HR.out.keep fun x hx => hb.block x (reads_lt HR.out hx)
      obtain ⟨g2, o2, hg, hg2, hr1⟩ := Rec.at_reads hrr (k := k + 1) (by simp; exact hlt')
      have eg : g2 = g1 ∧ o2 = o1 := by
        injection hg with h; injection h with h1 h2; exact ⟨h1.symm, h2.symm⟩
      obtain ⟨rfl, rfl⟩ := eg
      have hr2 : wr.rangeAt g2 (o2 + (k + 1) * 14) rs[k].cells := hr1
      have HSN : Hid (rs.take (k + 1) = rs.take k ++ [rs[k]]) := by show _ = _; rw [List.take_succ_eq_append_getElem hlt']
      have hmk : rs[k].may = true := HM.out _ (List.getElem_mem hlt')
      have hkk : rs[k].kind ≠ 1 := HK.out _ (List.getElem_mem hlt')
      clear hr1 hg hrr
      generalize rs[k] = c at hr2 HSN hmk hkk
      clear hlt'
      obtain ⟨y0, y1, y2, y3, y4, y5, y6, y7, y8, y9, y10, y11, y12, y13⟩ := Rec.off hr2
      obtain ⟨S, hS⟩ : ∃ S, S = (WSt.ofBase r).takes (rs.take k) := ⟨_, rfl⟩
      have HS : Hid (S = (WSt.ofBase r).takes (rs.take k)) := hS
      have HNX : Hid ((WSt.ofBase r).takes (rs.take (k + 1)) = S.one c) := by show _ = _; rw [HSN.out, WSt.takes_snoc, ← HS.out]
      have hbase : S.base = r.index := by rw [hS]; exact ((WSt.ofBase r).takes_base _).1
      have hlen : S.log.length ≤ k := by rw [hS]; have := (WSt.ofBase r).takes_len (rs.take k); rw [List.length_take] at this; have e0 : (WSt.ofBase r).log.length = 0 := rfl; omega
      rw [← hS] at hA
      clear hS hr2
      have HA : Hid (StaAt wr (w.heap.size + 1) 0 [] 90 lv S) := hA
      have HLV : Hid (∀ x, lv.ownBlock = some x → w.heap.size + 2 ≤ x) := hlv
      have HRS : Hid (wr.heap[w.heap.size]? = some (.cells #[.int .i64 0, .int .i64 0, .int .i64 0, .int .i64 0, .int .i64 0, .string ⟨#[]⟩, .slice none 0 0] 90)) := hR
      have HB : Hid (Below w.heap.size w wr) := hb
      obtain ⟨q0, q1, q2, q3, q4, q5, q6, qf⟩ := hA.cells
      have hbl := hA.lt
      clear hA hlv hR hb
      by_cases hk2 : c.kind = 2
      · have e1 : (c.kind == 2) = true := by rw [hk2]; rfl
        have HX : Hid (S.one c = { S with term := c.term, vote := c.vote }) := by show _ = _; unfold WSt.one; rw [if_pos hk2]
        clear hk2 hkk hmk hbase hlen
        go_wp2_with fail
        refine ⟨⟨k + 1, by omega, val_int (by omega), ?_⟩, by simp [intOf]; omega⟩
        show ToldIn _ _ _
        rw [HNX.out, HX.out]
        refine ⟨lv, (walTakeHard wr (w.heap.size + 1) 0 [] 90 lv S HA.out c.term c.vote).grown ((by repeat (first | exact Below.refl _ _ | assumption | with_reducible refine below_drewN ?_ _ | refine Gr.ext ?_ _ | refine Gr.alloc ?_ _ | refine Gr.drew ?_ | (refine Gr.set ?_ (by first | (simp; done) | (simp; omega)) _)))), HLV.out, ?_, (by repeat (first | exact Below.refl _ _ | assumption | with_reducible refine below_drewN ?_ _ | refine Gr.ext ?_ _ | refine Gr.alloc ?_ _ | refine Gr.drew ?_ | (refine Gr.set ?_ (by first | (simp; done) | (simp; omega)) _)))⟩
        exact (Below.heap_alloc _ _ _ (by simp; omega)).trans ((Below.heap_setCell _ _ _ _ (by simp)).trans ((Below.heap_setCell _ _ _ _ (by simp)).trans HRS.out))
      · have hk3 : c.kind = 3 := by rcases rec_kind c hmk with h | h | h; exact absurd h hkk; exact absurd h hk2; exact h
        have e1 : (c.kind == 2) = false := by rw [beq_eq_false_iff_ne]; exact hk2
        have hbd := rec_bd3 c hmk hk3
        have hri := HRI.out
        obtain ⟨d, hd⟩ : ∃ d, d = c.index - S.base := ⟨_, rfl⟩
        obtain ⟨m, hm⟩ : ∃ m, m = S.log.length := ⟨_, rfl⟩
        have w1 : IntKind.i64.wrap (c.index - S.base) = d := by rw [hbase, wrap_id _ (by omega) (by omega), hd, hbase]
        by_cases hin : 1 ≤ d ∧ d ≤ m + 1
        · obtain ⟨dd, hdd⟩ : ∃ dd : Nat, dd = (d - 1).toNat := ⟨_, rfl⟩
          have hd1 : d = (dd : Int) + 1 := by omega
          have HX : Hid (S.one c = { S with log := S.log.take dd ++ [⟨c.term, c.cmd⟩] }) := by
            show _ = _
            unfold WSt.one
            rw [if_neg hk2, if_pos ⟨hk3, by omega, by rw [← hd, ← hm]; exact hin.2⟩, ← hd, ← hdd]
          have HDD : Hid (dd ≤ m ∧ m ≤ 100000000 ∧ m = S.log.length) := ⟨by omega, by omega, hm⟩
          obtain ⟨la, lc, hv⟩ := HA.out.log.len
          rw [List.length_map, ← hm] at hv
          subst hv
          have hcap : m ≤ lc ∧ (la = none ∨ ∃ ga, la = some ⟨ga, 0, none⟩) := by
            rcases HA.out.log.1.2 with ⟨h1, h2⟩ | ⟨g, c', cur, hv, h1, h2, h3, h4, h5, h6⟩
            · injection h1 with h1 h3 h4
              exact ⟨by omega, .inl h1⟩
            · injection hv with h7 h8 h9; rw [List.length_map] at h3; exact ⟨by omega, .inr ⟨g, h7⟩⟩
          have hdl : dd ≤ lc := by have := hcap.1; omega
          have hdm : dd ≤ m := by omega
          have hm9 : m ≤ 100000000 := by omega
          have HTK : Hid (wr.reads 8 (.slice la dd lc) ((S.log.take dd).map Ety.cells)) := by
            have h1 := (ownL_upto HA.out.log hdm).2
            rw [← List.map_take] at h1
            exact h1.reads
          have hla := hcap.2
          rw [hd1] at w1
          have HBLK : Hid (wr.heap[w.heap.size + 1]? = some (.cells (([] : List Value) ++ S.cellsA (.slice la m lc)).toArray 90)) := HA.out.blk
          clear hk2 hkk hmk hbase hlen hk3 hbd hri hd hm hin hdd hd1 hcap
          rcases hla with rfl | ⟨ga, rfl⟩
          ·
            skip
            go_wp2_with (at_builtin; refine Held.out ?_)
            unfold Held
            refine wpL_app rfl _ _ 88 rfl 135 8 88 _ Try.underlying88 infoEtyL rfl (by decide) (.slice none 0 0) [] rfl (World.ownL.nil _ _ _) _ dd _ ((S.log.take dd).map Ety.cells) rfl (by rw [List.length_map, List.length_take]; have := HDD.out; omega) (fun _ => HTK.out.keep fun x hx => Below.heap_alloc _ _ _ (reads_lt HTK.out hx)) (ety_len _) (ety_one _) (by simp only [List.length_nil]; unfold maxLen; have := HDD.out; omega) (by simp only [List.length_nil]; have := HDD.out; omega) ?_
            intro a3 cap3 w3 ho3 hg3 _
            simp only [List.length_nil, Nat.zero_add, List.nil_append] at ho3 hg3 ⊢
            have hB3 : Below (wr.heap.size + 1) (wr.alloc (.cells #[.int .i64 c.kind, .int .i64 c.gen, .int .i64 c.index, .int .i64 c.term, .int .i64 c.vote, .int .i64 c.many, .int .i64 c.cmd.kind, .string c.cmd.key, .string c.cmd.val, .string c.cmd.old, .int .i64 c.cmd.rev, .int .i64 c.cmd.ses, .int .i64 c.cmd.seq, .string c.data] 25)) w3 := ⟨hg3.g.os, hg3.g.tape, hg3.g.output, by have := hg3.g.size; simpa using this, fun k hk => hg3.g.block k (by simpa using hk) (fun e => by cases e)⟩
            have HB3 : Hid (Below (wr.heap.size + 1) (wr.alloc (.cells #[.int .i64 c.kind, .int .i64 c.gen, .int .i64 c.index, .int .i64 c.term, .int .i64 c.vote, .int .i64 c.many, .int .i64 c.cmd.kind, .string c.cmd.key, .string c.cmd.val, .string c.cmd.old, .int .i64 c.cmd.rev, .int .i64 c.cmd.ses, .int .i64 c.cmd.seq, .string c.data] 25)) w3) := hB3
            have HO3 : Hid (w3.ownL 135 8 (.slice a3 dd cap3) ((S.log.take dd).map Ety.cells)) := ho3
            have HN3 : Hid (∀ x, (Value.slice a3 dd cap3).ownBlock = some x → wr.heap.size + 1 ≤ x) := by
              intro x hx
              rcases hg3.own with h | h
              · rw [h] at hx; cases hx
              · have := h x hx; simpa using this
            have hbx : w3.heap[wr.heap.size]? = some (.cells #[.int .i64 c.kind, .int .i64 c.gen, .int .i64 c.index, .int .i64 c.term, .int .i64 c.vote, .int .i64 c.many, .int .i64 c.cmd.kind, .string c.cmd.key, .string c.cmd.val, .string c.cmd.old, .int .i64 c.cmd.rev, .int .i64 c.cmd.ses, .int .i64 c.cmd.seq, .string c.data] 25) := (hB3.block wr.heap.size (by omega)).trans (heap_alloc_new wr _)
            have hsz3 : wr.heap.size + 1 ≤ w3.heap.size := by have := hB3.size; simpa using this
            have v3 : w3.cell? ⟨wr.heap.size, 3, none⟩ = some (.int .i64 c.term) := by simp only [World.cell?, hbx]; rfl
            have v6 : w3.cell? ⟨wr.heap.size, 6, none⟩ = some (.int .i64 c.cmd.kind) := by simp only [World.cell?, hbx]; rfl
            have v7 : w3.cell? ⟨wr.heap.size, 7, none⟩ = some (.string c.cmd.key) := by simp only [World.cell?, hbx]; rfl
            have v8 : w3.cell? ⟨wr.heap.size, 8, none⟩ = some (.string c.cmd.val) := by simp only [World.cell?, hbx]; rfl
            have v9 : w3.cell? ⟨wr.heap.size, 9, none⟩ = some (.string c.cmd.old) := by simp only [World.cell?, hbx]; rfl
            have v10 : w3.cell? ⟨wr.heap.size, 10, none⟩ = some (.int .i64 c.cmd.rev) := by simp only [World.cell?, hbx]; rfl
            have v11 : w3.cell? ⟨wr.heap.size, 11, none⟩ = some (.int .i64 c.cmd.ses) := by simp only [World.cell?, hbx]; rfl
            have v12 : w3.cell? ⟨wr.heap.size, 12, none⟩ = some (.int .i64 c.cmd.seq) := by simp only [World.cell?, hbx]; rfl
            have hwl : wr.heap.size < w3.heap.size := by omega
            clear ho3 hg3 hB3 hbx
            go_wp2_with (at_builtin; refine Held.out ?_)
            unfold Held
            have HL3 := HO3.out.alloc (.cells #[.int .i64 c.term, .int .i64 c.cmd.kind, .string c.cmd.key, .string c.cmd.val, .string c.cmd.old, .int .i64 c.cmd.rev, .int .i64 c.cmd.ses, .int .i64 c.cmd.seq] 135)
            have hlt3 : ((S.log.take dd).map Ety.cells).length ≤ 100000000 := by rw [List.length_map, List.length_take]; have := HDD.out; omega
            refine wpL_new rfl _ _ 88 rfl 135 8 88 _ Try.underlying88 infoEtyL rfl (by decide) (.slice a3 dd cap3) ((S.log.take dd).map Ety.cells) rfl HL3 #[.int .i64 c.term, .int .i64 c.cmd.kind, .string c.cmd.key, .string c.cmd.val, .string c.cmd.old, .int .i64 c.cmd.rev, .int .i64 c.cmd.ses, .int .i64 c.cmd.seq] w3.heap.size rfl (heap_alloc_new w3 _) rfl (ety_one [⟨c.term, c.cmd⟩] _ (List.mem_singleton.2 rfl)) (by unfold maxLen; omega) (by omega) ?_
            intro a4 cap4 w4 ho4 hg4 _
            have HO4 : Hid (w4.ownL 135 8 (.slice a4 (((S.log.take dd).map Ety.cells).length + 1) cap4) ((S.log.take dd).map Ety.cells ++ [Ety.cells ⟨c.term, c.cmd⟩])) := ho4
            have hN4 : ∀ x, (Value.slice a4 (((S.log.take dd).map Ety.cells).length + 1) cap4).ownBlock = some x → wr.heap.size + 1 ≤ x := by
              intro x hx
              rcases hg4.own with h | h
              · rw [h] at hx; exact HN3.out x hx
              · have := h x hx; simp at this; omega
            have hk4 : ∀ x, x < wr.heap.size → w4.heap[x]? = wr.heap[x]? := fun x hx =>
              (hg4.g.block x (by simp; omega) (fun e => by have := HN3.out x e.symm; omega)).trans ((Below.heap_alloc _ _ _ (by omega)).trans ((HB3.out.block x (by omega)).trans (Below.heap_alloc _ _ _ hx)))
            have HB4 : Hid (Below w.heap.size w w4) := ⟨hg4.g.os.trans (HB3.out.os.trans HB.out.os), hg4.g.tape.trans (HB3.out.tape.trans HB.out.tape), hg4.g.output.trans (HB3.out.output.trans HB.out.output), by have := hg4.g.size; simp at this; omega, fun x hx => (hk4 x (by omega)).trans (HB.out.block x hx)⟩
            obtain ⟨N4, hN⟩ : ∃ N, N = ((S.log.take dd).map Ety.cells).length + 1 := ⟨_, rfl⟩
            rw [← hN] at hN4 HO4 ⊢
            have HN4 : Hid (∀ x, (Value.slice a4 N4 cap4).ownBlock = some x → wr.heap.size + 1 ≤ x) := hN4
            have HK4 : Hid (∀ x, x < wr.heap.size → w4.heap[x]? = wr.heap[x]?) := hk4
            have hb4 := (hk4 (w.heap.size + 1) hbl).trans HBLK.out
            unfold WSt.cellsA at hb4
            simp only [List.nil_append] at hb4
            have HB4' : Hid (_ = _) := hb4
            have p6 : w4.cell? ⟨w.heap.size + 1, 6, none⟩ = some (.slice none m lc) := by simp only [World.cell?, hb4]; rfl
            have pf : ∀ o, w4.frozen? ⟨w.heap.size + 1, o, none⟩ = false := fun o => by simp [World.frozen?, hb4]
            have hbl4 : w.heap.size + 1 < w4.heap.size := (Array.getElem?_eq_some_iff.1 hb4).1
            clear ho4 hg4 hN4 hk4 hN hlt3 HL3 hb4 v3 v6 v7 v8 v9 v10 v11 v12
            go_wp2_with fail
            refine ⟨⟨k + 1, by omega, val_int (by omega), ?_⟩, by simp [intOf]; omega⟩
            show ToldIn _ _ _
            rw [HNX.out, HX.out]
            refine ⟨.slice a4 N4 cap4, ⟨?_, rfl, ?_, fun e => by have := HN4.out _ e; omega⟩, fun x hx => by have := HN4.out x hx; omega, ?_, ?_⟩
            · refine (cells_set HB4'.out _).trans ?_
              simp only [List.setIfInBounds_toArray, List.set_cons_succ, List.set_cons_zero]
              rfl
            · refine (ownL_eq HO4.out (by simp)).keep fun x hx => Below.heap_setCell _ _ _ _ (fun e => by have := HN4.out x hx; have e' : x = w.heap.size + 1 := e; omega)
            · exact (Below.heap_setCell _ _ _ _ (by simp)).trans ((HK4.out _ (by omega)).trans HRS.out)
            · exact Gr.set HB4.out (by simp) _
          ·
            skip
            go_wp2_with (at_builtin; refine Held.out ?_)
            unfold Held
            refine wpL_app rfl _ _ 88 rfl 135 8 88 _ Try.underlying88 infoEtyL rfl (by decide) (.slice none 0 0) [] rfl (World.ownL.nil _ _ _) _ dd _ ((S.log.take dd).map Ety.cells) rfl (by rw [List.length_map, List.length_take]; have := HDD.out; omega) (fun _ => HTK.out.keep fun x hx => Below.heap_alloc _ _ _ (reads_lt HTK.out hx)) (ety_len _) (ety_one _) (by simp only [List.length_nil]; unfold maxLen; have := HDD.out; omega) (by simp only [List.length_nil]; have := HDD.out; omega) ?_
            intro a3 cap3 w3 ho3 hg3 _
            simp only [List.length_nil, Nat.zero_add, List.nil_append] at ho3 hg3 ⊢
            have hB3 : Below (wr.heap.size + 1) (wr.alloc (.cells #[.int .i64 c.kind, .int .i64 c.gen, .int .i64 c.index, .int .i64 c.term, .int .i64 c.vote, .int .i64 c.many, .int .i64 c.cmd.kind, .string c.cmd.key, .string c.cmd.val, .string c.cmd.old, .int .i64 c.cmd.rev, .int .i64 c.cmd.ses, .int .i64 c.cmd.seq, .string c.data] 25)) w3 := ⟨hg3.g.os, hg3.g.tape, hg3.g.output, by have := hg3.g.size; simpa using this, fun k hk => hg3.g.block k (by simpa using hk) (fun e => by cases e)⟩
            have HB3 : Hid (Below (wr.heap.size + 1) (wr.alloc (.cells #[.int .i64 c.kind, .int .i64 c.gen, .int .i64 c.index, .int .i64 c.term, .int .i64 c.vote, .int .i64 c.many, .int .i64 c.cmd.kind, .string c.cmd.key, .string c.cmd.val, .string c.cmd.old, .int .i64 c.cmd.rev, .int .i64 c.cmd.ses, .int .i64 c.cmd.seq, .string c.data] 25)) w3) := hB3
            have HO3 : Hid (w3.ownL 135 8 (.slice a3 dd cap3) ((S.log.take dd).map Ety.cells)) := ho3
            have HN3 : Hid (∀ x, (Value.slice a3 dd cap3).ownBlock = some x → wr.heap.size + 1 ≤ x) := by
              intro x hx
              rcases hg3.own with h | h
              · rw [h] at hx; cases hx
              · have := h x hx; simpa using this
            have hbx : w3.heap[wr.heap.size]? = some (.cells #[.int .i64 c.kind, .int .i64 c.gen, .int .i64 c.index, .int .i64 c.term, .int .i64 c.vote, .int .i64 c.many, .int .i64 c.cmd.kind, .string c.cmd.key, .string c.cmd.val, .string c.cmd.old, .int .i64 c.cmd.rev, .int .i64 c.cmd.ses, .int .i64 c.cmd.seq, .string c.data] 25) := (hB3.block wr.heap.size (by omega)).trans (heap_alloc_new wr _)
            have hsz3 : wr.heap.size + 1 ≤ w3.heap.size := by have := hB3.size; simpa using this
            have v3 : w3.cell? ⟨wr.heap.size, 3, none⟩ = some (.int .i64 c.term) := by simp only [World.cell?, hbx]; rfl
            have v6 : w3.cell? ⟨wr.heap.size, 6, none⟩ = some (.int .i64 c.cmd.kind) := by simp only [World.cell?, hbx]; rfl
            have v7 : w3.cell? ⟨wr.heap.size, 7, none⟩ = some (.string c.cmd.key) := by simp only [World.cell?, hbx]; rfl
            have v8 : w3.cell? ⟨wr.heap.size, 8, none⟩ = some (.string c.cmd.val) := by simp only [World.cell?, hbx]; rfl
            have v9 : w3.cell? ⟨wr.heap.size, 9, none⟩ = some (.string c.cmd.old) := by simp only [World.cell?, hbx]; rfl
            have v10 : w3.cell? ⟨wr.heap.size, 10, none⟩ = some (.int .i64 c.cmd.rev) := by simp only [World.cell?, hbx]; rfl
            have v11 : w3.cell? ⟨wr.heap.size, 11, none⟩ = some (.int .i64 c.cmd.ses) := by simp only [World.cell?, hbx]; rfl
            have v12 : w3.cell? ⟨wr.heap.size, 12, none⟩ = some (.int .i64 c.cmd.seq) := by simp only [World.cell?, hbx]; rfl
            have hwl : wr.heap.size < w3.heap.size := by omega
            clear ho3 hg3 hB3 hbx
            go_wp2_with (at_builtin; refine Held.out ?_)
            unfold Held
            have HL3 := HO3.out.alloc (.cells #[.int .i64 c.term, .int .i64 c.cmd.kind, .string c.cmd.key, .string c.cmd.val, .string c.cmd.old, .int .i64 c.cmd.rev, .int .i64 c.cmd.ses, .int .i64 c.cmd.seq] 135)
            have hlt3 : ((S.log.take dd).map Ety.cells).length ≤ 100000000 := by rw [List.length_map, List.length_take]; have := HDD.out; omega
            refine wpL_new rfl _ _ 88 rfl 135 8 88 _ Try.underlying88 infoEtyL rfl (by decide) (.slice a3 dd cap3) ((S.log.take dd).map Ety.cells) rfl HL3 #[.int .i64 c.term, .int .i64 c.cmd.kind, .string c.cmd.key, .string c.cmd.val, .string c.cmd.old, .int .i64 c.cmd.rev, .int .i64 c.cmd.ses, .int .i64 c.cmd.seq] w3.heap.size rfl (heap_alloc_new w3 _) rfl (ety_one [⟨c.term, c.cmd⟩] _ (List.mem_singleton.2 rfl)) (by unfold maxLen; omega) (by omega) ?_
            intro a4 cap4 w4 ho4 hg4 _
            have HO4 : Hid (w4.ownL 135 8 (.slice a4 (((S.log.take dd).map Ety.cells).length + 1) cap4) ((S.log.take dd).map Ety.cells ++ [Ety.cells ⟨c.term, c.cmd⟩])) := ho4
            have hN4 : ∀ x, (Value.slice a4 (((S.log.take dd).map Ety.cells).length + 1) cap4).ownBlock = some x → wr.heap.size + 1 ≤ x := by
              intro x hx
              rcases hg4.own with h | h
              · rw [h] at hx; exact HN3.out x hx
              · have := h x hx; simp at this; omega
            have hk4 : ∀ x, x < wr.heap.size → w4.heap[x]? = wr.heap[x]? := fun x hx =>
              (hg4.g.block x (by simp; omega) (fun e => by have := HN3.out x e.symm; omega)).trans ((Below.heap_alloc _ _ _ (by omega)).trans ((HB3.out.block x (by omega)).trans (Below.heap_alloc _ _ _ hx)))
            have HB4 : Hid (Below w.heap.size w w4) := ⟨hg4.g.os.trans (HB3.out.os.trans HB.out.os), hg4.g.tape.trans (HB3.out.tape.trans HB.out.tape), hg4.g.output.trans (HB3.out.output.trans HB.out.output), by have := hg4.g.size; simp at this; omega, fun x hx => (hk4 x (by omega)).trans (HB.out.block x hx)⟩
            obtain ⟨N4, hN⟩ : ∃ N, N = ((S.log.take dd).map Ety.cells).length + 1 := ⟨_, rfl⟩
            rw [← hN] at hN4 HO4 ⊢
            have HN4 : Hid (∀ x, (Value.slice a4 N4 cap4).ownBlock = some x → wr.heap.size + 1 ≤ x) := hN4
            have HK4 : Hid (∀ x, x < wr.heap.size → w4.heap[x]? = wr.heap[x]?) := hk4
            have hb4 := (hk4 (w.heap.size + 1) hbl).trans HBLK.out
            unfold WSt.cellsA at hb4
            simp only [List.nil_append] at hb4
            have HB4' : Hid (_ = _) := hb4
            have p6 : w4.cell? ⟨w.heap.size + 1, 6, none⟩ = some (.slice (some ⟨ga, 0, none⟩) m lc) := by simp only [World.cell?, hb4]; rfl
            have pf : ∀ o, w4.frozen? ⟨w.heap.size + 1, o, none⟩ = false := fun o => by simp [World.frozen?, hb4]
            have hbl4 : w.heap.size + 1 < w4.heap.size := (Array.getElem?_eq_some_iff.1 hb4).1
            clear ho4 hg4 hN4 hk4 hN hlt3 HL3 hb4 v3 v6 v7 v8 v9 v10 v11 v12
            go_wp2_with fail
            refine ⟨⟨k + 1, by omega, val_int (by omega), ?_⟩, by simp [intOf]; omega⟩
            show ToldIn _ _ _
            rw [HNX.out, HX.out]
            refine ⟨.slice a4 N4 cap4, ⟨?_, rfl, ?_, fun e => by have := HN4.out _ e; omega⟩, fun x hx => by have := HN4.out x hx; omega, ?_, ?_⟩
            · refine (cells_set HB4'.out _).trans ?_
              simp only [List.setIfInBounds_toArray, List.set_cons_succ, List.set_cons_zero]
              rfl
            · refine (ownL_eq HO4.out (by simp)).keep fun x hx => Below.heap_setCell _ _ _ _ (fun e => by have := HN4.out x hx; have e' : x = w.heap.size + 1 := e; omega)
            · exact (Below.heap_setCell _ _ _ _ (by simp)).trans ((HK4.out _ (by omega)).trans HRS.out)
            · exact Gr.set HB4.out (by simp) _
        · have HX : Hid (S.one c = S) := by
            show _ = _
            unfold WSt.one
            rw [if_neg hk2, if_neg]
            rintro ⟨_, h1, h2⟩
            rw [← hd] at h1 h2
            rw [← hm] at h2
            exact hin ⟨h1, h2⟩
          obtain ⟨la, lc, hv⟩ := HA.out.log.len
          rw [List.length_map, ← hm] at hv
          subst hv
          have hm9 : m ≤ 100000000 := by omega
          by_cases h1 : 1 ≤ d
          · have e2 : decide (1 ≤ d) = true := by simp [h1]
            have e3 : decide (d ≤ (m : Int) + 1) = false := by simp; omega
            clear hk2 hkk hmk hbase hlen hk3 hbd hri hd hm hin h1
            go_wp2_with fail
            refine ⟨⟨k + 1, by omega, val_int (by omega), ?_⟩, by simp [intOf]; omega⟩
            show ToldIn _ _ _
            rw [HNX.out, HX.out]
            exact ⟨_, HA.out.grown ((by repeat (first | exact Below.refl _ _ | assumption | with_reducible refine below_drewN ?_ _ | refine Gr.ext ?_ _ | refine Gr.alloc ?_ _ | refine Gr.drew ?_ | (refine Gr.set ?_ (by first | (simp; done) | (simp; omega)) _)))), HLV.out, (Below.heap_alloc _ _ _ (by omega)).trans HRS.out, (by repeat (first | exact Below.refl _ _ | assumption | with_reducible refine below_drewN ?_ _ | refine Gr.ext ?_ _ | refine Gr.alloc ?_ _ | refine Gr.drew ?_ | (refine Gr.set ?_ (by first | (simp; done) | (simp; omega)) _)))⟩
          · have e2 : decide (1 ≤ d) = false := by simp; omega
            clear hk2 hkk hmk hbase hlen hk3 hbd hri hd hm hin h1
            go_wp2_with fail
            refine ⟨⟨k + 1, by omega, val_int (by omega), ?_⟩, by simp [intOf]; omega⟩
            show ToldIn _ _ _
            rw [HNX.out, HX.out]
            exact ⟨_, HA.out.grown ((by repeat (first | exact Below.refl _ _ | assumption | with_reducible refine below_drewN ?_ _ | refine Gr.ext ?_ _ | refine Gr.alloc ?_ _ | refine Gr.drew ?_ | (refine Gr.set ?_ (by first | (simp; done) | (simp; omega)) _)))), HLV.out, (Below.heap_alloc _ _ _ (by omega)).trans HRS.out, (by repeat (first | exact Below.refl _ _ | assumption | with_reducible refine below_drewN ?_ _ | refine Gr.ext ?_ _ | refine Gr.alloc ?_ _ | refine Gr.drew ?_ | (refine Gr.set ?_ (by first | (simp; done) | (simp; omega)) _)))⟩
    · have hkn : k = n := by omega
      subst hkn
      obtain ⟨lv, hA, hlv, hR, hb⟩ := HI.out
      have HA : Hid (StaAt wr (w.heap.size + 1) 0 [] 90 lv ((WSt.ofBase r).takes (rs.take k))) := hA
      have ht : (WSt.ofBase r).takes (rs.take k) = told (r :: rs) := by rw [HNL.out, List.take_length]; rfl
      rw [ht] at hA HA
      obtain ⟨S, hS⟩ : ∃ S, S = told (r :: rs) := ⟨_, rfl⟩
      rw [← hS] at hA HA
      have HST : Hid (S = told (r :: rs)) := hS
      obtain ⟨la, lc, hv⟩ := hA.log.len
      rw [List.length_map] at hv
      obtain ⟨m, hm⟩ : ∃ m, m = S.log.length := ⟨_, rfl⟩
      rw [← hm] at hv
      subst hv
      have HLV : Hid (∀ x, (Value.slice la m lc).ownBlock = some x → w.heap.size + 2 ≤ x) := hlv
      have HB : Hid (Below w.heap.size w wr) := hb
      obtain ⟨q0, q1, q2, q3, q4, q5, q6, qf⟩ := hA.cells
      have hbl := hA.lt
      have z0 : wr.cell? ⟨w.heap.size, 0, none⟩ = some (.int .i64 0) := by simp only [World.cell?, hR]; rfl
      have z1 : wr.cell? ⟨w.heap.size, 1, none⟩ = some (.int .i64 0) := by simp only [World.cell?, hR]; rfl
      have z2 : wr.cell? ⟨w.heap.size, 2, none⟩ = some (.int .i64 0) := by simp only [World.cell?, hR]; rfl
      have z3 : wr.cell? ⟨w.heap.size, 3, none⟩ = some (.int .i64 0) := by simp only [World.cell?, hR]; rfl
      have z4 : wr.cell? ⟨w.heap.size, 4, none⟩ = some (.int .i64 0) := by simp only [World.cell?, hR]; rfl
      have z5 : wr.cell? ⟨w.heap.size, 5, none⟩ = some (.string ⟨#[]⟩) := by simp only [World.cell?, hR]; rfl
      have z6 : wr.cell? ⟨w.heap.size, 6, none⟩ = some (.slice none 0 0) := by simp only [World.cell?, hR]; rfl
      have zf : ∀ o, wr.frozen? ⟨w.heap.size, o, none⟩ = false := fun o => by simp [World.frozen?, hR]
      have HRZ : Hid (_ = _) := hR
      clear hA hlv hR hb hS hm ht
      go_wp2_with fail
      refine world_any (F := fun W => W.heap[w.heap.size]? = some (.cells #[.int .i64 S.gen, .int .i64 S.term, .int .i64 S.vote, .int .i64 S.base, .int .i64 S.bterm, .string S.data, .slice la m lc] 90) ∧ wr.turned W (fun x => x = w.heap.size)) ⟨?_, ?_⟩ ?_
      · refine (cells_set (cells_set (cells_set (cells_set (cells_set (cells_set (cells_set HRZ.out _) _) _) _) _) _) _).trans ?_
        simp only [List.setIfInBounds_toArray, List.set_cons_succ, List.set_cons_zero]
      · exact turned_set (S := fun x => x = w.heap.size) (turned_set (S := fun x => x = w.heap.size) (turned_set (S := fun x => x = w.heap.size) (turned_set (S := fun x => x = w.heap.size) (turned_set (S := fun x => x = w.heap.size) (turned_set (S := fun x => x = w.heap.size) (turned_set (S := fun x => x = w.heap.size) (World.turned.refl wr _) rfl _) rfl _) rfl _) rfl _) rfl _) rfl _) rfl _
      rintro W ⟨hW1, hW2⟩
      have v0 : W.cell? ⟨w.heap.size, 0, none⟩ = some (.int .i64 S.gen) := by simp only [World.cell?, hW1]; rfl
      have v1 : W.cell? ⟨w.heap.size, 1, none⟩ = some (.int .i64 S.term) := by simp only [World.cell?, hW1]; rfl
      have v2 : W.cell? ⟨w.heap.size, 2, none⟩ = some (.int .i64 S.vote) := by simp only [World.cell?, hW1]; rfl
      have v3 : W.cell? ⟨w.heap.size, 3, none⟩ = some (.int .i64 S.base) := by simp only [World.cell?, hW1]; rfl
      have v4 : W.cell? ⟨w.heap.size, 4, none⟩ = some (.int .i64 S.bterm) := by simp only [World.cell?, hW1]; rfl
      have v5 : W.cell? ⟨w.heap.size, 5, none⟩ = some (.string S.data) := by simp only [World.cell?, hW1]; rfl
      have v6 : W.cell? ⟨w.heap.size, 6, none⟩ = some (.slice la m lc) := by simp only [World.cell?, hW1]; rfl
      rw [← HST.out]
      unfold WSt.cellsA
      have hbw : Below w.heap.size w W := ⟨hW2.os.trans HB.out.os, hW2.tape.trans HB.out.tape, hW2.output.trans HB.out.output, Nat.le_trans HB.out.size hW2.size, fun k hk => (hW2.block k (by omega) (by omega)).trans (HB.out.block k hk)⟩
      exact bodyPost_ret (v := .agg #[.int .i64 S.gen, .int .i64 S.term, .int .i64 S.vote, .int .i64 S.base, .int .i64 S.bterm, .string S.data, .slice la m lc]) (by simp [results, Try.results178, go_sem, v0, v1, v2, v3, v4, v5, v6]) rfl ⟨_, rfl, HA.out.log.keep fun x hx => hW2.block x (HA.out.log.lt hx) (fun e => by have := HLV.out x hx; omega), fun x hx => by have := HLV.out x hx; omega, hbw⟩
end Go.Proofs.Ytcbbnmodjnnbeaa
