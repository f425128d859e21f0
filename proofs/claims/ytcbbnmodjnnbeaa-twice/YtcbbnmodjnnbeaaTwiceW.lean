/- The walk of the law on commands that come twice. -/
import Derived.Test.YtcbbnmodjnnbeaaTwiceP
import Derived.Test.YtcbbnmodjnnbeaaSaveW
import Derived.Test.YtcbbnmodjnnbeaaHoldsW
import Derived.Deep.DeepMust
import Derived.Deep.MidRow
set_option linter.unusedSimpArgs false
set_option linter.unusedVariables false
namespace Go.Proofs.Ytcbbnmodjnnbeaa
open Go.RowKit

def pickJ (c n : Int) : Int := Int.tmod (if c < 0 then -(c + 1) else c) n
theorem pickJ_lt (c n : Int) (hn : 0 < n) : 0 ≤ pickJ c n ∧ pickJ c n < n := by
  unfold pickJ
  have h0 : 0 ≤ (if c < 0 then -(c + 1) else c) := by split <;> omega
  rw [Int.tmod_eq_emod_of_nonneg h0]
  exact ⟨Int.emod_nonneg _ (by omega), Int.emod_lt_of_pos _ hn⟩
theorem twPick (c n : Int) (w : World) (h0 : -9223372036854775808 ≤ c) (h1 : c < 9223372036854775808) (hn : 0 < n) (hn1 : n < 9223372036854775808) :
    Calls Try.prog 24 #[.int .i64 c, .int .i64 n] w fun e w' => ∃ m : Int, e = .returned (.int .i64 m) ∧ w' = w ∧ 0 ≤ m ∧ m < n := by
  have hl := pickJ_lt c n hn
  by_cases hc : c < 0
  · go_enter Try.func24, Try.ntmps24
    go_wp2
    exact bodyPost_ret (v := .int .i64 (pickJ c n)) (by simp [results, Try.results24, go_sem, pickJ, hc, Int.neg_tmod]) rfl ⟨_, rfl, rfl, hl⟩
  · go_enter Try.func24, Try.ntmps24
    go_wp2
    have hc' : 0 ≤ c := by omega
    exact bodyPost_ret (v := .int .i64 (pickJ c n)) (by simp [results, Try.results24, go_sem, pickJ, show ¬ c < 0 by omega, Int.tmod_eq_emod_of_nonneg hc']) rfl ⟨_, rfl, rfl, hl⟩
structure TMem (w0 wr : World) (p b : Nat) (D : DataW Value) (s : St) (v4 : Value) (ls : List Cmd) : Prop where
  store : StoreAt wr p b D s
  sge : ∀ x, footS p b D x → w0.heap.size ≤ x
  own4 : wr.ownL 23 7 v4 (ls.map Cmd.cells)
  off4 : ∀ x, v4.ownBlock = some x → ¬ footS p b D x
  below : Below w0.heap.size w0 wr
theorem TMem.grow {w0 wr W : World} {p b : Nat} {D : DataW Value} {s : St} {v4 : Value} {ls : List Cmd} (h : TMem w0 wr p b D s v4 ls) (hb : Below wr.heap.size wr W) : TMem w0 W p b D s v4 ls :=
  ⟨h.store.grown hb, h.sge, h.own4.keep fun x hx => hb.block x (h.own4.lt hx), h.off4, h.below.trans (hb.mono h.below.size)⟩
theorem TMem.act {w0 wr W : World} {p b : Nat} {D D' : DataW Value} {s s' : St} {v4 : Value} {ls : List Cmd} (h : TMem w0 wr p b D s v4 ls) (h1 : StoreAt W p b D' s') (h2 : ∀ x, footM b D' x → footM b D x ∨ wr.heap.size ≤ x) (h3 : wr.turned W (footS p b D)) : TMem w0 W p b D' s' v4 ls := by
  have hn : ∀ x, x < wr.heap.size → ¬ footS p b D x → W.heap[x]? = wr.heap[x]? ∧ ¬ footS p b D' x := fun x hx hf => Chg.keep h2 h3 hx hf
  have hb := h.below.size
  refine ⟨h1, fun x hx => ?_, h.own4.keep fun x hx => (hn x (h.own4.lt hx) (h.off4 x hx)).1, fun x hx => (hn x (h.own4.lt hx) (h.off4 x hx)).2, ?_⟩
  · rcases hx with rfl | hx
    · exact h.sge x (.inl rfl)
    · rcases h2 x hx with h4 | h4
      · exact h.sge x (.inr h4)
      · omega
  · exact h.below.trans ⟨h3.os, h3.tape, h3.output, h3.size, fun k hk => h3.block k (by omega) fun e => by have := h.sge k e; omega⟩
/-- What is looked at across calls: the command's own block, and a Result. -/
structure Wat (W : World) (p b : Nat) (D : DataW Value) (q : Nat) (c : Cmd) (g : Nat) (r : Res) : Prop where
  blk : W.heap[q]? = some (.cells #[.int .i64 c.kind, .string c.key, .string c.val, .string c.old, .int .i64 c.rev, .int .i64 c.ses, .int .i64 c.seq] 23)
  qf : ¬ footS p b D q
  lt : g < W.heap.size
  x0 : W.cell? ⟨g, 0, none⟩ = some (.bool r.ok)
  x1 : W.cell? ⟨g, 1, none⟩ = some (.int .i64 r.rev)
  x2 : W.cell? ⟨g, 2, none⟩ = some (.bool r.stale)
  gf : ¬ footS p b D g
theorem Wat.grow {w W : World} {p b : Nat} {D : DataW Value} {q g : Nat} {c : Cmd} {r : Res} (h : Wat w p b D q c g r) (hb : Below w.heap.size w W) : Wat W p b D q c g r :=
  ⟨(hb.block q (Array.getElem?_eq_some_iff.1 h.blk).1).trans h.blk, h.qf, Nat.lt_of_lt_of_le h.lt hb.size, (hb.cell (p := ⟨g, 0, none⟩) h.lt).trans h.x0, (hb.cell (p := ⟨g, 1, none⟩) h.lt).trans h.x1, (hb.cell (p := ⟨g, 2, none⟩) h.lt).trans h.x2, h.gf⟩
theorem Wat.act {w W : World} {p b : Nat} {D D' : DataW Value} {q g : Nat} {c : Cmd} {r : Res} (h : Wat w p b D q c g r) (h2 : ∀ x, footM b D' x → footM b D x ∨ w.heap.size ≤ x) (h3 : w.turned W (footS p b D)) : Wat W p b D' q c g r := by
  have hq := Chg.keep h2 h3 (Array.getElem?_eq_some_iff.1 h.blk).1 h.qf
  have hg := Chg.keep h2 h3 h.lt h.gf
  exact ⟨hq.1.trans h.blk, hq.2, Nat.lt_of_lt_of_le h.lt h3.size, (World.cell?_of_block (w := w) hg.1).trans h.x0, (World.cell?_of_block (w := w) hg.1).trans h.x1, (World.cell?_of_block (w := w) hg.1).trans h.x2, hg.2⟩
theorem Wat.cells {W : World} {p b : Nat} {D : DataW Value} {q g : Nat} {c : Cmd} {r : Res} (h : Wat W p b D q c g r) : q < W.heap.size ∧ (∀ o, W.frozen? ⟨q, o, none⟩ = false) ∧ W.cell? ⟨q, 0, none⟩ = some (.int .i64 c.kind) ∧ W.cell? ⟨q, 1, none⟩ = some (.string c.key) ∧ W.cell? ⟨q, 2, none⟩ = some (.string c.val) ∧ W.cell? ⟨q, 3, none⟩ = some (.string c.old) ∧ W.cell? ⟨q, 4, none⟩ = some (.int .i64 c.rev) ∧ W.cell? ⟨q, 5, none⟩ = some (.int .i64 c.ses) ∧ W.cell? ⟨q, 6, none⟩ = some (.int .i64 c.seq) := by
  have hb := h.blk
  refine ⟨(Array.getElem?_eq_some_iff.1 hb).1, fun o => by simp [World.frozen?, hb], ?_, ?_, ?_, ?_, ?_, ?_, ?_⟩ <;> (simp only [World.cell?, hb]; rfl)
theorem Wat.cellsW {W : World} {p b : Nat} {D : DataW Value} {q g : Nat} {c : Cmd} {kv n : Int} {r : Res} (h : Wat W p b D q (c.with kv n) g r) : q < W.heap.size ∧ (∀ o, W.frozen? ⟨q, o, none⟩ = false) ∧ W.cell? ⟨q, 0, none⟩ = some (.int .i64 c.kind) ∧ W.cell? ⟨q, 1, none⟩ = some (.string c.key) ∧ W.cell? ⟨q, 2, none⟩ = some (.string c.val) ∧ W.cell? ⟨q, 3, none⟩ = some (.string c.old) ∧ W.cell? ⟨q, 4, none⟩ = some (.int .i64 c.rev) ∧ W.cell? ⟨q, 5, none⟩ = some (.int .i64 kv) ∧ W.cell? ⟨q, 6, none⟩ = some (.int .i64 n) := h.cells
set_option maxRecDepth 100000 in
set_option maxHeartbeats 40000000 in
theorem lawTwice (w : World) (a : Option Addr) (cap : Nat) (l : List Cmd) (ses sq : Int) (hr : l ≠ [] → w.reads 7 (.slice a l.length cap) (l.map Cmd.cells)) (hn : l.length * 80 ≤ 140737488355328) (hs0 : -9223372036854775808 ≤ ses) (hs1 : ses < 9223372036854775808) (hq0 : -9223372036854775808 ≤ sq) (hq1 : sq < 9223372036854775808) :
    Calls Try.prog 8 #[.slice a l.length cap, .int .i64 ses, .int .i64 sq] w fun e w' => e = .returned (.bool true) ∧ Below w.heap.size w w' := by
  go_enter Try.func8, Try.ntmps8
  go_wp2_with fail
  refine (lawHolds _).mono ?_
  rintro e w1 ⟨p, b, D, rfl, hS, hF, hB⟩
  have HS1 : Hid (StoreAt w1 p b D st4) := hS
  have HF1 : Hid (∀ x, footS p b D x → w.heap.size ≤ x) := hF
  have HB1 : Hid (Below w.heap.size w w1) := hB.trans (Below.refl _ _)
  have hr1 : l ≠ [] → w1.reads 7 (.slice a l.length cap) (l.map Cmd.cells) := fun hne => readsGr (hr hne) hB
  clear hS hF hB hr
  go_wp2_with fail
  refine (twPick ses 8 _ hs0 hs1 (by decide) (by decide)).mono ?_
  rintro e _ ⟨m1, rfl, rfl, hm0, hm1⟩
  obtain ⟨ki, rfl⟩ := Int.eq_ofNat_of_zero_le hm0
  have hki : (ki : Int) < 8 := hm1
  clear hm0 hm1
  go_wp2_with fail
  refine (twPick sq 999999 _ hq0 hq1 (by decide) (by decide)).mono ?_
  rintro e _ ⟨m2, rfl, rfl, hm0, hm1⟩
  obtain ⟨n0, rfl⟩ := Int.eq_ofNat_of_zero_le hm0
  have hn0 : (n0 : Int) < 999999 := hm1
  clear hm0 hm1 hs0 hs1 hq0 hq1
  go_wp2_with fail
  refine (lawKnown _ a cap l hr1 hn).mono ?_
  rintro e w2 ⟨v4, rfl, hK⟩
  have hmay : ∀ c ∈ l.filter Cmd.may, c.may = true := fun c hc => (List.mem_filter.1 hc).2
  obtain ⟨a4, c4, hv4⟩ : ∃ a c, v4 = .slice a (l.filter Cmd.may).length c := by obtain ⟨a, c, h⟩ := hK.own.len; rw [List.length_map] at h; exact ⟨a, c, h⟩
  have hnl : (l.filter Cmd.may).length ≤ l.length := List.length_filter_le _ _
  generalize l.filter Cmd.may = ls at *
  subst hv4
  have HM0 : Hid (TMem w w2 p b D st4 (.slice a4 ls.length c4) ls) := by
    have h1 := HB1.out.size
    exact ⟨HS1.out.grown hK.below, HF1.out, hK.own, fun x hx hf => by have := HS1.out.foot_lt hf; have := hK.new x hx; omega, HB1.out.trans (hK.below.mono h1)⟩
  have HMAY : Hid (∀ c ∈ ls, c.may = true) := hmay
  have hss : ssAt st4 ki = (0, ⟨false, 0, false⟩) := by
    have : ki = 0 ∨ ki = 1 ∨ ki = 2 ∨ ki = 3 ∨ ki = 4 ∨ ki = 5 ∨ ki = 6 ∨ ki = 7 := by omega
    rcases this with rfl | rfl | rfl | rfl | rfl | rfl | rfl | rfl <;> rfl
  have HL0 : Hid (2 ≤ 2 + n0 ∧ 2 + n0 ≤ 1000000 ∧ (ssAt st4 ki).1 < 2 + n0 ∧ Bnd st4) := ⟨by omega, by omega, by rw [hss]; show 0 < 2 + n0; omega, Bnd.st4⟩
  obtain ⟨n, hnn⟩ : ∃ n, ls.length = n := ⟨_, rfl⟩
  have hn1 : n * 80 ≤ 140737488355328 := by omega
  have HLN : Hid (ls.length = n) := hnn
  rw [hnn] at HM0 ⊢
  clear hK hmay hnl hr1 hn hss hnn
  go_wp2_with fail
  obtain ⟨kv, hkv⟩ : ∃ kv : Int, (1 + (ki : Int)) = kv := ⟨_, rfl⟩
  rw [hkv]
  have HKV : Hid (1 ≤ kv ∧ kv ≤ 8 ∧ kv = (ki : Int) + 1 ∧ ki < 8) := ⟨by omega, by omega, by omega, by omega⟩
  clear hkv hki hn0
  go_loopw [9, 11] (fun nv iv wr => ∃ (i nn : Nat) (D : DataW Value) (s : St), i ≤ n ∧ iv = .int .i64 i ∧ nv = .int .i64 nn ∧ Hid (2 ≤ nn ∧ nn ≤ 1000000 ∧ (ssAt s ki).1 < nn ∧ Bnd s) ∧ Hid (TMem w wr p b D s (.slice a4 n c4) ls)) (fun _ iv _ => n - (intOf iv).toNat)
  case atStart => exact ⟨0, 2 + n0, D, st4, Nat.zero_le _, rfl, val_int (by omega), HL0, HM0⟩
  case round =>
    clear HM0 HL0 HS1 HF1
    obtain ⟨i, nn, D, s, hi, rfl, rfl, HL, HM⟩ := hrel
    by_cases hend : i < n ∧ i < 40
    · obtain ⟨hlt, h40⟩ := hend
      have hlt' : i < ls.length := by rw [HLN.out]; exact hlt
      obtain ⟨g4, rfl, hg4, hf4, hv4⟩ := Cmd.at_own HM.out.own4 hlt'
      obtain ⟨d0, d1, d2, d3, d4, d5, d6⟩ := Cmd.off hv4
      have HC : Hid (ls[i].may = true ∧ ls[i]? = some ls[i]) := ⟨HMAY.out _ (List.getElem_mem _), List.getElem?_eq_getElem _⟩
      generalize ls[i] = c at *
      have hin : (i : Int) < n := by omega
      have hi40 : (i : Int) < 40 := by omega
      clear hv4 hf4
      by_cases hkind : c.kind = 0
      · go_wp2_with fail
        exact ⟨⟨i + 1, nn, D, s, by omega, val_int (by omega), rfl, HL, HM.out.grow (by repeat (first | exact Below.refl _ _ | assumption | with_reducible refine below_drewN ?_ _ | refine Gr.ext ?_ _ | refine Gr.alloc ?_ _ | refine Gr.drew ?_ | (refine Gr.set ?_ (by first | (simp; done) | (simp; omega)) _)))⟩, by simp [intOf]; omega⟩
      · have hkind2 : (c.kind == 0) = false := by rw [beq_eq_false_iff_ne]; exact hkind
        have HMY : Hid ((c.with kv nn).may = true ∧ (c.with kv ((nn : Int) - 1)).may = true) := by
          have h1 := HKV.out; have h2 := HL.out
          exact ⟨with_may HC.out.1 hkind ⟨h1.1, h1.2.1⟩ ⟨by omega, by omega⟩, with_may HC.out.1 hkind ⟨h1.1, h1.2.1⟩ ⟨by omega, by omega⟩⟩
        clear hkind
        go_wp2_with fail
        refine (twDo (HM.out.store.grown (by repeat (first | exact Below.refl _ _ | assumption | with_reducible refine below_drewN ?_ _ | refine Gr.ext ?_ _ | refine Gr.alloc ?_ _ | refine Gr.drew ?_ | (refine Gr.set ?_ (by first | (simp; done) | (simp; omega)) _)))) (wr.heap.size + 1) (fun hf => by have := HM.out.store.foot_lt hf; omega) (c.with kv nn) (Hp.new (by simp)) HMY.out.1).mono ?_
        rintro e w3 ⟨g1, D3, rfl, hg1, r0, r1, r2, hgf1, hS3, hF3, ht3⟩
        have HM3 : Hid (TMem w w3 p b D3 (s.result (c.with kv nn)).2 (.slice (some ⟨g4, 0, none⟩) n c4) ls) := (HM.out.grow (by repeat (first | exact Below.refl _ _ | assumption | with_reducible refine below_drewN ?_ _ | refine Gr.ext ?_ _ | refine Gr.alloc ?_ _ | refine Gr.drew ?_ | (refine Gr.set ?_ (by first | (simp; done) | (simp; omega)) _)))).act hS3 hF3 ht3
        have hnew := res_new s HL.out.2.2.2.good.ss (c.with kv nn) ki nn HKV.out.2.2.2 (by show kv = _; exact HKV.out.2.2.1) rfl HL.out.2.2.1
        have HB3 : Hid (Bnd (s.result (c.with kv nn)).2) := HL.out.2.2.2.result _ (cmd_bd _ HMY.out.1)
        have hq3 := Chg.keep hF3 ht3 (x := wr.heap.size) (by simp; omega) (fun hf => by have := HM.out.store.foot_lt hf; omega)
        have HW3 : Hid (Wat w3 p b D3 wr.heap.size (c.with kv nn) g1 (s.result (c.with kv nn)).1) := ⟨hq3.1.trans (Hp.alloc (Hp.new rfl) _), hq3.2, hg1, r0, r1, r2, hgf1⟩
        rw [hnew.1] at r2
        have HS3 : Hid (ssAt (s.result (c.with kv nn)).2 ki = (nn, (s.result (c.with kv nn)).1)) := hnew.2
        generalize (s.result (c.with kv nn)).1 = rr at *
        generalize (s.result (c.with kv nn)).2 = s3 at *
        clear hnew hq3 hS3 hF3 ht3 hgf1 d0 d1 d2 d3 d4 d5 d6 hg4
        obtain ⟨qc, hqc⟩ : ∃ qc, wr.heap.size = qc := ⟨_, rfl⟩
        rw [hqc] at HW3 ⊢
        clear hqc
        obtain ⟨hqs, hqf, q0, q1, q2, q3, q4, q5, q6⟩ := HW3.out.cells
        have HIN : Hid (i < n ∧ i < 40) := ⟨hlt, h40⟩
        by_cases hnx : i + 1 < n
        · skip
          have hk3 : i + 1 < ls.length := by rw [HLN.out]; exact hnx
          obtain ⟨g4', eg, hg4, hf4, hv4⟩ := Cmd.at_own HM3.out.own4 hk3
          injection eg with eg
          injection eg with eg eo es
          clear eo es
          subst eg
          have HC2 : Hid (ls[i + 1].may = true) := HMAY.out _ (List.getElem_mem _)
          generalize ls[i + 1] = c2 at *
          obtain ⟨e0, e1, e2, e3, e4, e5, e6⟩ := Cmd.off hv4
          have hv5 : w3.rangeAt g4 ((i + 1) * 7) [.int .i64 c2.kind, .string c2.key, .string c2.val, .string c2.old, .int .i64 c2.rev, .int .i64 c2.ses, .int .i64 c2.seq] := by have := hv4; exact this
          have hnx2 : (i : Int) + 1 < n := by omega
          have HZ : Hid (i = 0 ∨ ¬ i = 0) := Classical.em _
          clear e0 e1 e2 e3 e4 e6 hv4 hk3 hnx hin hi40 hlt h40 hlt' hi hf4
          rcases HZ.out with hz | hz
          · have hz1 : ((i : Int) == 0) = true := by rw [beq_iff_eq]; omega
            clear hz HZ
            by_cases hses : c2.ses = kv
            · have hses2 : (c2.ses != kv) = false := by rw [bne_eq_false_iff_eq]; exact hses
              have HSN : Hid True := trivial
              clear hses
              go_wp2_with fail
              clear e5 hv5 hg4 hnx2 hz1 hses2
              obtain ⟨D5, s5, HM5, HW5, HB5, HS5⟩ : ∃ (D5 : DataW Value) (s5 : St), Hid (TMem w w3 p b D5 s5 (.slice (some ⟨g4, 0, none⟩) n c4) ls) ∧ Hid (Wat w3 p b D5 qc (c.with kv nn) g1 rr) ∧ Hid (Bnd s5) ∧ Hid (ssAt s5 ki = (nn, rr)) := ⟨D3, s3, HM3, HW3, HB3, HS3⟩
              clear hqs hqf q0 q1 q2 q3 q4 q5 q6 r0 r1 r2 hg1 hn1 HM3 HW3 HB3 HS3
              have HDO : Hid (∀ (W : World) (D : DataW Value) (q : Nat), StoreAt W p b D s5 → ¬ footS p b D q → W.heap[q]? = some (.cells #[.int .i64 c.kind, .string c.key, .string c.val, .string c.old, .int .i64 c.rev, .int .i64 kv, .int .i64 (nn : Int)] 23) → Calls Try.prog 31 #[.pointer (some ⟨p, 0, none⟩), .slice (some ⟨q, 0, none⟩) 1 1] W fun e w' => ∃ (g : Nat) (D' : DataW Value), e = .returned (.tuple #[.slice (some ⟨g, 0, none⟩) 1 1, .int .i64 0]) ∧ g < w'.heap.size ∧ w'.cell? ⟨g, 0, none⟩ = some (.bool rr.ok) ∧ w'.cell? ⟨g, 1, none⟩ = some (.int .i64 rr.rev) ∧ w'.cell? ⟨g, 2, none⟩ = some (.bool rr.stale) ∧ ¬ footS p b D' g ∧ StoreAt w' p b D' s5 ∧ (∀ x, footM b D' x → footM b D x ∨ W.heap.size ≤ x) ∧ W.turned w' (footS p b D)) := fun W D q h1 h2 h3 => by
                have h := twDo h1 q h2 (c.with kv nn) h3 HMY.out.1
                rw [res_again s5 (c.with kv nn) ki nn rr HKV.out.2.2.1 rfl HS5.out] at h
                exact h
              have HDL : Hid (∀ (W : World) (D : DataW Value) (q : Nat), StoreAt W p b D s5 → ¬ footS p b D q → W.heap[q]? = some (.cells #[.int .i64 c.kind, .string c.key, .string c.val, .string c.old, .int .i64 c.rev, .int .i64 kv, .int .i64 ((nn : Int) - 1)] 23) → Calls Try.prog 31 #[.pointer (some ⟨p, 0, none⟩), .slice (some ⟨q, 0, none⟩) 1 1] W fun e w' => ∃ (g : Nat) (D' : DataW Value), e = .returned (.tuple #[.slice (some ⟨g, 0, none⟩) 1 1, .int .i64 0]) ∧ g < w'.heap.size ∧ w'.cell? ⟨g, 0, none⟩ = some (.bool (⟨false, s5.rev, true⟩ : Res).ok) ∧ w'.cell? ⟨g, 1, none⟩ = some (.int .i64 (⟨false, s5.rev, true⟩ : Res).rev) ∧ w'.cell? ⟨g, 2, none⟩ = some (.bool (⟨false, s5.rev, true⟩ : Res).stale) ∧ ¬ footS p b D' g ∧ StoreAt w' p b D' s5 ∧ (∀ x, footM b D' x → footM b D x ∨ W.heap.size ≤ x) ∧ W.turned w' (footS p b D)) := fun W D q h1 h2 h3 => by
                have h := twDo h1 q h2 (c.with kv ((nn : Int) - 1)) h3 HMY.out.2
                rw [res_old s5 (c.with kv ((nn : Int) - 1)) ki nn (nn - 1) rr HKV.out.2.2.1 (by show (nn : Int) - 1 = _; have := HL.out.1; omega) HS5.out (by have := HL.out.1; omega)] at h
                exact h
              refine (storeSave _ p b D5 s5 HM5.out.store HB5.out).mono ?_
              rintro e w6 ⟨k6, hk6, he6, hb6⟩
              obtain ⟨bf, hbf⟩ : ∃ bf, B (saveL s5 k6) = bf := ⟨_, rfl⟩
              rw [hbf] at he6
              have HBF : Hid (B (saveL s5 k6) = bf) := hbf
              subst he6
              clear hbf
              have HK6 : Hid (KeysIn s5 k6) := hk6
              have HM6 : Hid (TMem w w6 p b D5 s5 (.slice (some ⟨g4, 0, none⟩) n c4) ls) := HM5.out.grow hb6
              have HW6 : Hid (Wat w6 p b D5 qc (c.with kv nn) g1 rr) := HW5.out.grow hb6
              clear hb6 hk6 HM5 HW5
              obtain ⟨hqs, hqf, q0, q1, q2, q3, q4, q5, q6⟩ := HW6.out.cellsW
              have hnb : (nn : Int) ≤ 1000000 := by have := HL.out.2.1; omega
              have hnb2 : (2 : Int) ≤ nn := by have := HL.out.1; omega
              go_wp2_with fail
              refine (HDO.out _ D5 w6.heap.size (HM6.out.store.grown (by repeat (first | exact Below.refl _ _ | assumption | with_reducible refine below_drewN ?_ _ | refine Gr.ext ?_ _ | refine Gr.alloc ?_ _ | refine Gr.drew ?_ | (refine Gr.set ?_ (by first | (simp; done) | (simp; omega)) _)))) (fun hf => by have := HM6.out.store.foot_lt hf; omega) (Hp.new rfl)).mono ?_
              rintro e w7 ⟨g7, D7, rfl, hg7, y0, y1, y2, hgf7, hS7, hF7, ht7⟩
              have HM7 : Hid (TMem w w7 p b D7 s5 (.slice (some ⟨g4, 0, none⟩) n c4) ls) := (HM6.out.grow (by repeat (first | exact Below.refl _ _ | assumption | with_reducible refine below_drewN ?_ _ | refine Gr.ext ?_ _ | refine Gr.alloc ?_ _ | refine Gr.drew ?_ | (refine Gr.set ?_ (by first | (simp; done) | (simp; omega)) _)))).act hS7 hF7 ht7
              have HW7 : Hid (Wat w7 p b D7 qc (c.with kv nn) g1 rr) := (HW6.out.grow (by repeat (first | exact Below.refl _ _ | assumption | with_reducible refine below_drewN ?_ _ | refine Gr.ext ?_ _ | refine Gr.alloc ?_ _ | refine Gr.drew ?_ | (refine Gr.set ?_ (by first | (simp; done) | (simp; omega)) _)))).act hF7 ht7
              have HV7 : Hid (Wat w7 p b D7 qc (c.with kv nn) g7 rr) := ⟨HW7.out.blk, HW7.out.qf, hg7, y0, y1, y2, hgf7⟩
              clear hS7 hF7 ht7 hgf7 HM6 HW6 hqs hqf q0 q1 q2 q3 q4 q5 q6 y0 y1 y2 hg7
              obtain ⟨hqs, hqf, q0, q1, q2, q3, q4, q5, q6⟩ := HW7.out.cellsW
              go_wp2_with fail
              refine (HDL.out _ D7 (w7.heap.size + 1) (HM7.out.store.grown (by repeat (first | exact Below.refl _ _ | assumption | with_reducible refine below_drewN ?_ _ | refine Gr.ext ?_ _ | refine Gr.alloc ?_ _ | refine Gr.drew ?_ | (refine Gr.set ?_ (by first | (simp; done) | (simp; omega)) _)))) (fun hf => by have := HM7.out.store.foot_lt hf; omega) (Hp.new (by simp))).mono ?_
              rintro e w8 ⟨g8, D8, rfl, hg8, z0, z1, z2, hgf8, hS8, hF8, ht8⟩
              have HM8 : Hid (TMem w w8 p b D8 s5 (.slice (some ⟨g4, 0, none⟩) n c4) ls) := (HM7.out.grow (by repeat (first | exact Below.refl _ _ | assumption | with_reducible refine below_drewN ?_ _ | refine Gr.ext ?_ _ | refine Gr.alloc ?_ _ | refine Gr.drew ?_ | (refine Gr.set ?_ (by first | (simp; done) | (simp; omega)) _)))).act hS8 hF8 ht8
              have HW8 : Hid (Wat w8 p b D8 qc (c.with kv nn) g1 rr) := (HW7.out.grow (by repeat (first | exact Below.refl _ _ | assumption | with_reducible refine below_drewN ?_ _ | refine Gr.ext ?_ _ | refine Gr.alloc ?_ _ | refine Gr.drew ?_ | (refine Gr.set ?_ (by first | (simp; done) | (simp; omega)) _)))).act hF8 ht8
              have HV8 : Hid (Wat w8 p b D8 qc (c.with kv nn) g7 rr) := (HV7.out.grow (by repeat (first | exact Below.refl _ _ | assumption | with_reducible refine below_drewN ?_ _ | refine Gr.ext ?_ _ | refine Gr.alloc ?_ _ | refine Gr.drew ?_ | (refine Gr.set ?_ (by first | (simp; done) | (simp; omega)) _)))).act hF8 ht8
              clear hS8 hF8 ht8 hgf8 HM7 HW7 HV7 hqs hqf q0 q1 q2 q3 q4 q5 q6
              have x0 := HW8.out.x0; have x1 := HW8.out.x1; have x2 := HW8.out.x2; have xl := HW8.out.lt
              have y0 := HV8.out.x0; have y1 := HV8.out.x1; have y2 := HV8.out.x2; have yl := HV8.out.lt
              have hneq : ∀ w, (binOp .neq 72 (.agg #[.bool rr.ok, .int .i64 rr.rev, .bool rr.stale]) (.agg #[.bool rr.ok, .int .i64 rr.rev, .bool rr.stale])).run Try.prog w = .ok (.bool false) w := fun w => by rw [neq_res rr rr w, (Res.same_iff rr rr).2 rfl]; rfl
              have HSV : Hid (∀ x, Calls Try.prog 34 #[.pointer (some ⟨p, 0, none⟩)] (w8.ext x) fun e w' => e = .returned (.string bf) ∧ Below (w8.ext x).heap.size (w8.ext x) w') := fun x => (storeSave _ p b D8 s5 (HM8.out.store.grown (Below.of_ext w8 x)) HB5.out).mono fun e w' ⟨k9, hk9, he9, hb9⟩ => ⟨by rw [he9, ← saveL_same HK6.out hk9, HBF.out], hb9⟩
              go_wp2_with fail
              refine wp_region_grows (by kernel_rfl) (by kernel_rfl) ?_
              repeat (first | quiet_step (fail) | (refine wpQuiet_step (fun K hK => ?_); go_simp; simp only [↓IntWalk.iteOmega]; go_simp; refine hK _ ?_; clear hK K))
              quiet_step (exact Calls.grows (HSV.out _))
              repeat (first | quiet_step (fail) | (refine wpQuiet_step (fun K hK => ?_); go_simp; simp only [↓IntWalk.iteOmega]; go_simp; refine hK _ ?_; clear hK K))
              refine wpQuiet_nil ?_
              rintro _ ⟨x9, rfl⟩
              have HM9 : Hid (TMem w (w8.ext x9) p b D8 s5 (.slice (some ⟨g4, 0, none⟩) n c4) ls) := HM8.out.grow (Below.of_ext w8 x9)
              have HBW : Hid (Below w.heap.size w (w8.ext x9)) := HM9.out.below
              clear x0 x1 x2 xl y0 y1 y2 yl z0 z1 z2 hg8 hneq
              by_cases hmax : nn = 1000000
              · have hmx : ((nn : Int) == 1000000) = true := by rw [beq_iff_eq]; omega
                have hmp : (nn : Int) = 1000000 := by omega
                go_wp2_with fail
                all_goals exact bodyPost_ret (v := .bool true) (by simp [results, Try.results8, go_sem]) rfl ⟨rfl, HBW.out⟩
              · have hmx : ((nn : Int) == 1000000) = false := by rw [beq_eq_false_iff_ne]; omega
                have hmp : ¬ (nn : Int) = 1000000 := by omega
                go_wp2_with fail
                have hi4 : (i : Int) < 40 := by have := HIN.out.2; omega
                have hw64 : wrap64 ((i : Int) + 1) = (i : Int) + 1 := by unfold wrap64; omega
                all_goals try rw [hw64]
                all_goals exact ⟨⟨i + 1, nn + 1, D8, s5, by have := HIN.out.1; omega, val_int (by omega), val_int (by omega), ⟨by have := HL.out.1; omega, by have := HL.out.2.1; omega, by rw [HS5.out]; show nn < nn + 1; omega, HB5.out⟩, HM9⟩, by have := HIN.out.1; simp [intOf]; omega⟩
            · have hses2 : (c2.ses != kv) = true := by rw [bne_iff_ne]; exact hses
              have HSN : Hid (¬ c2.ses = kv) := hses
              clear hses
              go_wp2_with (refine wpList_load_mid rfl 23 _ rfl g4 _ rfl _ _ hv5 Try.underlying23 rfl (by kernel_rfl) ?_; clear hnx2 e5 hv5 hz1 hses2 hkind2 r0 r1 r2 hg1 hg4 hqs hqf q0 q1 q2 q3 q4 q5 q6 hn1; refine Held.out ?_)
              unfold Held
              go_simp
              go_wp2_with fail
              refine (twDo (HM3.out.store.grown (by repeat (first | exact Below.refl _ _ | assumption | with_reducible refine below_drewN ?_ _ | refine Gr.ext ?_ _ | refine Gr.alloc ?_ _ | refine Gr.drew ?_ | (refine Gr.set ?_ (by first | (simp; done) | (simp; omega)) _)))) (w3.heap.size) (fun hf => by have := HM3.out.store.foot_lt hf; omega) c2 (Hp.new (by simp)) HC2.out).mono ?_
              rintro e w4 ⟨g2, D4, rfl, hg2, y0, y1, y2, hgf2, hS4, hF4, ht4⟩
              have HM4 : Hid (TMem w w4 p b D4 (s3.result c2).2 (.slice (some ⟨g4, 0, none⟩) n c4) ls) := (HM3.out.grow (by repeat (first | exact Below.refl _ _ | assumption | with_reducible refine below_drewN ?_ _ | refine Gr.ext ?_ _ | refine Gr.alloc ?_ _ | refine Gr.drew ?_ | (refine Gr.set ?_ (by first | (simp; done) | (simp; omega)) _)))).act hS4 hF4 ht4
              have HW4 : Hid (Wat w4 p b D4 qc (c.with kv nn) g1 rr) := (HW3.out.grow (by repeat (first | exact Below.refl _ _ | assumption | with_reducible refine below_drewN ?_ _ | refine Gr.ext ?_ _ | refine Gr.alloc ?_ _ | refine Gr.drew ?_ | (refine Gr.set ?_ (by first | (simp; done) | (simp; omega)) _)))).act hF4 ht4
              have HB4 : Hid (Bnd (s3.result c2).2) := HB3.out.result _ (cmd_bd _ HC2.out)
              have HS4 : Hid (ssAt (s3.result c2).2 ki = (nn, rr)) := (res_other s3 HB3.out.good.ss c2 ki (cmd_bd _ HC2.out) (by have := HKV.out.2.2.1; have := HSN.out; omega)).trans HS3.out
              generalize (s3.result c2).2 = s4 at *
              clear hS4 hF4 ht4 hgf2 hg2 y0 y1 y2 HM3 HW3 HB3 HS3
              obtain ⟨hqs, hqf, q0, q1, q2, q3, q4, q5, q6⟩ := HW4.out.cellsW
              go_wp2_with fail
              obtain ⟨D5, s5, HM5, HW5, HB5, HS5⟩ : ∃ (D5 : DataW Value) (s5 : St), Hid (TMem w w4 p b D5 s5 (.slice (some ⟨g4, 0, none⟩) n c4) ls) ∧ Hid (Wat w4 p b D5 qc (c.with kv nn) g1 rr) ∧ Hid (Bnd s5) ∧ Hid (ssAt s5 ki = (nn, rr)) := ⟨D4, s4, HM4, HW4, HB4, HS4⟩
              clear hqs hqf q0 q1 q2 q3 q4 q5 q6 HM4 HW4 HB4 HS4
              have HDO : Hid (∀ (W : World) (D : DataW Value) (q : Nat), StoreAt W p b D s5 → ¬ footS p b D q → W.heap[q]? = some (.cells #[.int .i64 c.kind, .string c.key, .string c.val, .string c.old, .int .i64 c.rev, .int .i64 kv, .int .i64 (nn : Int)] 23) → Calls Try.prog 31 #[.pointer (some ⟨p, 0, none⟩), .slice (some ⟨q, 0, none⟩) 1 1] W fun e w' => ∃ (g : Nat) (D' : DataW Value), e = .returned (.tuple #[.slice (some ⟨g, 0, none⟩) 1 1, .int .i64 0]) ∧ g < w'.heap.size ∧ w'.cell? ⟨g, 0, none⟩ = some (.bool rr.ok) ∧ w'.cell? ⟨g, 1, none⟩ = some (.int .i64 rr.rev) ∧ w'.cell? ⟨g, 2, none⟩ = some (.bool rr.stale) ∧ ¬ footS p b D' g ∧ StoreAt w' p b D' s5 ∧ (∀ x, footM b D' x → footM b D x ∨ W.heap.size ≤ x) ∧ W.turned w' (footS p b D)) := fun W D q h1 h2 h3 => by
                have h := twDo h1 q h2 (c.with kv nn) h3 HMY.out.1
                rw [res_again s5 (c.with kv nn) ki nn rr HKV.out.2.2.1 rfl HS5.out] at h
                exact h
              have HDL : Hid (∀ (W : World) (D : DataW Value) (q : Nat), StoreAt W p b D s5 → ¬ footS p b D q → W.heap[q]? = some (.cells #[.int .i64 c.kind, .string c.key, .string c.val, .string c.old, .int .i64 c.rev, .int .i64 kv, .int .i64 ((nn : Int) - 1)] 23) → Calls Try.prog 31 #[.pointer (some ⟨p, 0, none⟩), .slice (some ⟨q, 0, none⟩) 1 1] W fun e w' => ∃ (g : Nat) (D' : DataW Value), e = .returned (.tuple #[.slice (some ⟨g, 0, none⟩) 1 1, .int .i64 0]) ∧ g < w'.heap.size ∧ w'.cell? ⟨g, 0, none⟩ = some (.bool (⟨false, s5.rev, true⟩ : Res).ok) ∧ w'.cell? ⟨g, 1, none⟩ = some (.int .i64 (⟨false, s5.rev, true⟩ : Res).rev) ∧ w'.cell? ⟨g, 2, none⟩ = some (.bool (⟨false, s5.rev, true⟩ : Res).stale) ∧ ¬ footS p b D' g ∧ StoreAt w' p b D' s5 ∧ (∀ x, footM b D' x → footM b D x ∨ W.heap.size ≤ x) ∧ W.turned w' (footS p b D)) := fun W D q h1 h2 h3 => by
                have h := twDo h1 q h2 (c.with kv ((nn : Int) - 1)) h3 HMY.out.2
                rw [res_old s5 (c.with kv ((nn : Int) - 1)) ki nn (nn - 1) rr HKV.out.2.2.1 (by show (nn : Int) - 1 = _; have := HL.out.1; omega) HS5.out (by have := HL.out.1; omega)] at h
                exact h
              refine (storeSave _ p b D5 s5 HM5.out.store HB5.out).mono ?_
              rintro e w6 ⟨k6, hk6, he6, hb6⟩
              obtain ⟨bf, hbf⟩ : ∃ bf, B (saveL s5 k6) = bf := ⟨_, rfl⟩
              rw [hbf] at he6
              have HBF : Hid (B (saveL s5 k6) = bf) := hbf
              subst he6
              clear hbf
              have HK6 : Hid (KeysIn s5 k6) := hk6
              have HM6 : Hid (TMem w w6 p b D5 s5 (.slice (some ⟨g4, 0, none⟩) n c4) ls) := HM5.out.grow hb6
              have HW6 : Hid (Wat w6 p b D5 qc (c.with kv nn) g1 rr) := HW5.out.grow hb6
              clear hb6 hk6 HM5 HW5
              obtain ⟨hqs, hqf, q0, q1, q2, q3, q4, q5, q6⟩ := HW6.out.cellsW
              have hnb : (nn : Int) ≤ 1000000 := by have := HL.out.2.1; omega
              have hnb2 : (2 : Int) ≤ nn := by have := HL.out.1; omega
              go_wp2_with fail
              refine (HDO.out _ D5 w6.heap.size (HM6.out.store.grown (by repeat (first | exact Below.refl _ _ | assumption | with_reducible refine below_drewN ?_ _ | refine Gr.ext ?_ _ | refine Gr.alloc ?_ _ | refine Gr.drew ?_ | (refine Gr.set ?_ (by first | (simp; done) | (simp; omega)) _)))) (fun hf => by have := HM6.out.store.foot_lt hf; omega) (Hp.new rfl)).mono ?_
              rintro e w7 ⟨g7, D7, rfl, hg7, y0, y1, y2, hgf7, hS7, hF7, ht7⟩
              have HM7 : Hid (TMem w w7 p b D7 s5 (.slice (some ⟨g4, 0, none⟩) n c4) ls) := (HM6.out.grow (by repeat (first | exact Below.refl _ _ | assumption | with_reducible refine below_drewN ?_ _ | refine Gr.ext ?_ _ | refine Gr.alloc ?_ _ | refine Gr.drew ?_ | (refine Gr.set ?_ (by first | (simp; done) | (simp; omega)) _)))).act hS7 hF7 ht7
              have HW7 : Hid (Wat w7 p b D7 qc (c.with kv nn) g1 rr) := (HW6.out.grow (by repeat (first | exact Below.refl _ _ | assumption | with_reducible refine below_drewN ?_ _ | refine Gr.ext ?_ _ | refine Gr.alloc ?_ _ | refine Gr.drew ?_ | (refine Gr.set ?_ (by first | (simp; done) | (simp; omega)) _)))).act hF7 ht7
              have HV7 : Hid (Wat w7 p b D7 qc (c.with kv nn) g7 rr) := ⟨HW7.out.blk, HW7.out.qf, hg7, y0, y1, y2, hgf7⟩
              clear hS7 hF7 ht7 hgf7 HM6 HW6 hqs hqf q0 q1 q2 q3 q4 q5 q6 y0 y1 y2 hg7
              obtain ⟨hqs, hqf, q0, q1, q2, q3, q4, q5, q6⟩ := HW7.out.cellsW
              go_wp2_with fail
              refine (HDL.out _ D7 (w7.heap.size + 1) (HM7.out.store.grown (by repeat (first | exact Below.refl _ _ | assumption | with_reducible refine below_drewN ?_ _ | refine Gr.ext ?_ _ | refine Gr.alloc ?_ _ | refine Gr.drew ?_ | (refine Gr.set ?_ (by first | (simp; done) | (simp; omega)) _)))) (fun hf => by have := HM7.out.store.foot_lt hf; omega) (Hp.new (by simp))).mono ?_
              rintro e w8 ⟨g8, D8, rfl, hg8, z0, z1, z2, hgf8, hS8, hF8, ht8⟩
              have HM8 : Hid (TMem w w8 p b D8 s5 (.slice (some ⟨g4, 0, none⟩) n c4) ls) := (HM7.out.grow (by repeat (first | exact Below.refl _ _ | assumption | with_reducible refine below_drewN ?_ _ | refine Gr.ext ?_ _ | refine Gr.alloc ?_ _ | refine Gr.drew ?_ | (refine Gr.set ?_ (by first | (simp; done) | (simp; omega)) _)))).act hS8 hF8 ht8
              have HW8 : Hid (Wat w8 p b D8 qc (c.with kv nn) g1 rr) := (HW7.out.grow (by repeat (first | exact Below.refl _ _ | assumption | with_reducible refine below_drewN ?_ _ | refine Gr.ext ?_ _ | refine Gr.alloc ?_ _ | refine Gr.drew ?_ | (refine Gr.set ?_ (by first | (simp; done) | (simp; omega)) _)))).act hF8 ht8
              have HV8 : Hid (Wat w8 p b D8 qc (c.with kv nn) g7 rr) := (HV7.out.grow (by repeat (first | exact Below.refl _ _ | assumption | with_reducible refine below_drewN ?_ _ | refine Gr.ext ?_ _ | refine Gr.alloc ?_ _ | refine Gr.drew ?_ | (refine Gr.set ?_ (by first | (simp; done) | (simp; omega)) _)))).act hF8 ht8
              clear hS8 hF8 ht8 hgf8 HM7 HW7 HV7 hqs hqf q0 q1 q2 q3 q4 q5 q6
              have x0 := HW8.out.x0; have x1 := HW8.out.x1; have x2 := HW8.out.x2; have xl := HW8.out.lt
              have y0 := HV8.out.x0; have y1 := HV8.out.x1; have y2 := HV8.out.x2; have yl := HV8.out.lt
              have hneq : ∀ w, (binOp .neq 72 (.agg #[.bool rr.ok, .int .i64 rr.rev, .bool rr.stale]) (.agg #[.bool rr.ok, .int .i64 rr.rev, .bool rr.stale])).run Try.prog w = .ok (.bool false) w := fun w => by rw [neq_res rr rr w, (Res.same_iff rr rr).2 rfl]; rfl
              have HSV : Hid (∀ x, Calls Try.prog 34 #[.pointer (some ⟨p, 0, none⟩)] (w8.ext x) fun e w' => e = .returned (.string bf) ∧ Below (w8.ext x).heap.size (w8.ext x) w') := fun x => (storeSave _ p b D8 s5 (HM8.out.store.grown (Below.of_ext w8 x)) HB5.out).mono fun e w' ⟨k9, hk9, he9, hb9⟩ => ⟨by rw [he9, ← saveL_same HK6.out hk9, HBF.out], hb9⟩
              go_wp2_with fail
              refine wp_region_grows (by kernel_rfl) (by kernel_rfl) ?_
              repeat (first | quiet_step (fail) | (refine wpQuiet_step (fun K hK => ?_); go_simp; simp only [↓IntWalk.iteOmega]; go_simp; refine hK _ ?_; clear hK K))
              quiet_step (exact Calls.grows (HSV.out _))
              repeat (first | quiet_step (fail) | (refine wpQuiet_step (fun K hK => ?_); go_simp; simp only [↓IntWalk.iteOmega]; go_simp; refine hK _ ?_; clear hK K))
              refine wpQuiet_nil ?_
              rintro _ ⟨x9, rfl⟩
              have HM9 : Hid (TMem w (w8.ext x9) p b D8 s5 (.slice (some ⟨g4, 0, none⟩) n c4) ls) := HM8.out.grow (Below.of_ext w8 x9)
              have HBW : Hid (Below w.heap.size w (w8.ext x9)) := HM9.out.below
              clear x0 x1 x2 xl y0 y1 y2 yl z0 z1 z2 hg8 hneq
              by_cases hmax : nn = 1000000
              · have hmx : ((nn : Int) == 1000000) = true := by rw [beq_iff_eq]; omega
                have hmp : (nn : Int) = 1000000 := by omega
                go_wp2_with fail
                all_goals exact bodyPost_ret (v := .bool true) (by simp [results, Try.results8, go_sem]) rfl ⟨rfl, HBW.out⟩
              · have hmx : ((nn : Int) == 1000000) = false := by rw [beq_eq_false_iff_ne]; omega
                have hmp : ¬ (nn : Int) = 1000000 := by omega
                go_wp2_with fail
                have hi4 : (i : Int) < 40 := by have := HIN.out.2; omega
                have hw64 : wrap64 ((i : Int) + 1) = (i : Int) + 1 := by unfold wrap64; omega
                all_goals try rw [hw64]
                all_goals exact ⟨⟨i + 1, nn + 1, D8, s5, by have := HIN.out.1; omega, val_int (by omega), val_int (by omega), ⟨by have := HL.out.1; omega, by have := HL.out.2.1; omega, by rw [HS5.out]; show nn < nn + 1; omega, HB5.out⟩, HM9⟩, by have := HIN.out.1; simp [intOf]; omega⟩

          · have hz1 : ((i : Int) == 0) = false := by rw [beq_eq_false_iff_ne]; omega
            clear hz HZ
            by_cases hses : c2.ses = kv
            · have hses2 : (c2.ses != kv) = false := by rw [bne_eq_false_iff_eq]; exact hses
              have HSN : Hid True := trivial
              clear hses
              go_wp2_with fail
              clear e5 hv5 hg4 hnx2 hz1 hses2
              obtain ⟨D5, s5, HM5, HW5, HB5, HS5⟩ : ∃ (D5 : DataW Value) (s5 : St), Hid (TMem w w3 p b D5 s5 (.slice (some ⟨g4, 0, none⟩) n c4) ls) ∧ Hid (Wat w3 p b D5 qc (c.with kv nn) g1 rr) ∧ Hid (Bnd s5) ∧ Hid (ssAt s5 ki = (nn, rr)) := ⟨D3, s3, HM3, HW3, HB3, HS3⟩
              clear hqs hqf q0 q1 q2 q3 q4 q5 q6 r0 r1 r2 hg1 hn1 HM3 HW3 HB3 HS3
              have HDO : Hid (∀ (W : World) (D : DataW Value) (q : Nat), StoreAt W p b D s5 → ¬ footS p b D q → W.heap[q]? = some (.cells #[.int .i64 c.kind, .string c.key, .string c.val, .string c.old, .int .i64 c.rev, .int .i64 kv, .int .i64 (nn : Int)] 23) → Calls Try.prog 31 #[.pointer (some ⟨p, 0, none⟩), .slice (some ⟨q, 0, none⟩) 1 1] W fun e w' => ∃ (g : Nat) (D' : DataW Value), e = .returned (.tuple #[.slice (some ⟨g, 0, none⟩) 1 1, .int .i64 0]) ∧ g < w'.heap.size ∧ w'.cell? ⟨g, 0, none⟩ = some (.bool rr.ok) ∧ w'.cell? ⟨g, 1, none⟩ = some (.int .i64 rr.rev) ∧ w'.cell? ⟨g, 2, none⟩ = some (.bool rr.stale) ∧ ¬ footS p b D' g ∧ StoreAt w' p b D' s5 ∧ (∀ x, footM b D' x → footM b D x ∨ W.heap.size ≤ x) ∧ W.turned w' (footS p b D)) := fun W D q h1 h2 h3 => by
                have h := twDo h1 q h2 (c.with kv nn) h3 HMY.out.1
                rw [res_again s5 (c.with kv nn) ki nn rr HKV.out.2.2.1 rfl HS5.out] at h
                exact h
              have HDL : Hid (∀ (W : World) (D : DataW Value) (q : Nat), StoreAt W p b D s5 → ¬ footS p b D q → W.heap[q]? = some (.cells #[.int .i64 c.kind, .string c.key, .string c.val, .string c.old, .int .i64 c.rev, .int .i64 kv, .int .i64 ((nn : Int) - 1)] 23) → Calls Try.prog 31 #[.pointer (some ⟨p, 0, none⟩), .slice (some ⟨q, 0, none⟩) 1 1] W fun e w' => ∃ (g : Nat) (D' : DataW Value), e = .returned (.tuple #[.slice (some ⟨g, 0, none⟩) 1 1, .int .i64 0]) ∧ g < w'.heap.size ∧ w'.cell? ⟨g, 0, none⟩ = some (.bool (⟨false, s5.rev, true⟩ : Res).ok) ∧ w'.cell? ⟨g, 1, none⟩ = some (.int .i64 (⟨false, s5.rev, true⟩ : Res).rev) ∧ w'.cell? ⟨g, 2, none⟩ = some (.bool (⟨false, s5.rev, true⟩ : Res).stale) ∧ ¬ footS p b D' g ∧ StoreAt w' p b D' s5 ∧ (∀ x, footM b D' x → footM b D x ∨ W.heap.size ≤ x) ∧ W.turned w' (footS p b D)) := fun W D q h1 h2 h3 => by
                have h := twDo h1 q h2 (c.with kv ((nn : Int) - 1)) h3 HMY.out.2
                rw [res_old s5 (c.with kv ((nn : Int) - 1)) ki nn (nn - 1) rr HKV.out.2.2.1 (by show (nn : Int) - 1 = _; have := HL.out.1; omega) HS5.out (by have := HL.out.1; omega)] at h
                exact h
              refine (storeSave _ p b D5 s5 HM5.out.store HB5.out).mono ?_
              rintro e w6 ⟨k6, hk6, he6, hb6⟩
              obtain ⟨bf, hbf⟩ : ∃ bf, B (saveL s5 k6) = bf := ⟨_, rfl⟩
              rw [hbf] at he6
              have HBF : Hid (B (saveL s5 k6) = bf) := hbf
              subst he6
              clear hbf
              have HK6 : Hid (KeysIn s5 k6) := hk6
              have HM6 : Hid (TMem w w6 p b D5 s5 (.slice (some ⟨g4, 0, none⟩) n c4) ls) := HM5.out.grow hb6
              have HW6 : Hid (Wat w6 p b D5 qc (c.with kv nn) g1 rr) := HW5.out.grow hb6
              clear hb6 hk6 HM5 HW5
              obtain ⟨hqs, hqf, q0, q1, q2, q3, q4, q5, q6⟩ := HW6.out.cellsW
              have hnb : (nn : Int) ≤ 1000000 := by have := HL.out.2.1; omega
              have hnb2 : (2 : Int) ≤ nn := by have := HL.out.1; omega
              go_wp2_with fail
              refine (HDO.out _ D5 w6.heap.size (HM6.out.store.grown (by repeat (first | exact Below.refl _ _ | assumption | with_reducible refine below_drewN ?_ _ | refine Gr.ext ?_ _ | refine Gr.alloc ?_ _ | refine Gr.drew ?_ | (refine Gr.set ?_ (by first | (simp; done) | (simp; omega)) _)))) (fun hf => by have := HM6.out.store.foot_lt hf; omega) (Hp.new rfl)).mono ?_
              rintro e w7 ⟨g7, D7, rfl, hg7, y0, y1, y2, hgf7, hS7, hF7, ht7⟩
              have HM7 : Hid (TMem w w7 p b D7 s5 (.slice (some ⟨g4, 0, none⟩) n c4) ls) := (HM6.out.grow (by repeat (first | exact Below.refl _ _ | assumption | with_reducible refine below_drewN ?_ _ | refine Gr.ext ?_ _ | refine Gr.alloc ?_ _ | refine Gr.drew ?_ | (refine Gr.set ?_ (by first | (simp; done) | (simp; omega)) _)))).act hS7 hF7 ht7
              have HW7 : Hid (Wat w7 p b D7 qc (c.with kv nn) g1 rr) := (HW6.out.grow (by repeat (first | exact Below.refl _ _ | assumption | with_reducible refine below_drewN ?_ _ | refine Gr.ext ?_ _ | refine Gr.alloc ?_ _ | refine Gr.drew ?_ | (refine Gr.set ?_ (by first | (simp; done) | (simp; omega)) _)))).act hF7 ht7
              have HV7 : Hid (Wat w7 p b D7 qc (c.with kv nn) g7 rr) := ⟨HW7.out.blk, HW7.out.qf, hg7, y0, y1, y2, hgf7⟩
              clear hS7 hF7 ht7 hgf7 HM6 HW6 hqs hqf q0 q1 q2 q3 q4 q5 q6 y0 y1 y2 hg7
              obtain ⟨hqs, hqf, q0, q1, q2, q3, q4, q5, q6⟩ := HW7.out.cellsW
              go_wp2_with fail
              refine (HDL.out _ D7 (w7.heap.size + 1) (HM7.out.store.grown (by repeat (first | exact Below.refl _ _ | assumption | with_reducible refine below_drewN ?_ _ | refine Gr.ext ?_ _ | refine Gr.alloc ?_ _ | refine Gr.drew ?_ | (refine Gr.set ?_ (by first | (simp; done) | (simp; omega)) _)))) (fun hf => by have := HM7.out.store.foot_lt hf; omega) (Hp.new (by simp))).mono ?_
              rintro e w8 ⟨g8, D8, rfl, hg8, z0, z1, z2, hgf8, hS8, hF8, ht8⟩
              have HM8 : Hid (TMem w w8 p b D8 s5 (.slice (some ⟨g4, 0, none⟩) n c4) ls) := (HM7.out.grow (by repeat (first | exact Below.refl _ _ | assumption | with_reducible refine below_drewN ?_ _ | refine Gr.ext ?_ _ | refine Gr.alloc ?_ _ | refine Gr.drew ?_ | (refine Gr.set ?_ (by first | (simp; done) | (simp; omega)) _)))).act hS8 hF8 ht8
              have HW8 : Hid (Wat w8 p b D8 qc (c.with kv nn) g1 rr) := (HW7.out.grow (by repeat (first | exact Below.refl _ _ | assumption | with_reducible refine below_drewN ?_ _ | refine Gr.ext ?_ _ | refine Gr.alloc ?_ _ | refine Gr.drew ?_ | (refine Gr.set ?_ (by first | (simp; done) | (simp; omega)) _)))).act hF8 ht8
              have HV8 : Hid (Wat w8 p b D8 qc (c.with kv nn) g7 rr) := (HV7.out.grow (by repeat (first | exact Below.refl _ _ | assumption | with_reducible refine below_drewN ?_ _ | refine Gr.ext ?_ _ | refine Gr.alloc ?_ _ | refine Gr.drew ?_ | (refine Gr.set ?_ (by first | (simp; done) | (simp; omega)) _)))).act hF8 ht8
              clear hS8 hF8 ht8 hgf8 HM7 HW7 HV7 hqs hqf q0 q1 q2 q3 q4 q5 q6
              have x0 := HW8.out.x0; have x1 := HW8.out.x1; have x2 := HW8.out.x2; have xl := HW8.out.lt
              have y0 := HV8.out.x0; have y1 := HV8.out.x1; have y2 := HV8.out.x2; have yl := HV8.out.lt
              have hneq : ∀ w, (binOp .neq 72 (.agg #[.bool rr.ok, .int .i64 rr.rev, .bool rr.stale]) (.agg #[.bool rr.ok, .int .i64 rr.rev, .bool rr.stale])).run Try.prog w = .ok (.bool false) w := fun w => by rw [neq_res rr rr w, (Res.same_iff rr rr).2 rfl]; rfl
              have HSV : Hid (∀ x, Calls Try.prog 34 #[.pointer (some ⟨p, 0, none⟩)] (w8.ext x) fun e w' => e = .returned (.string bf) ∧ Below (w8.ext x).heap.size (w8.ext x) w') := fun x => (storeSave _ p b D8 s5 (HM8.out.store.grown (Below.of_ext w8 x)) HB5.out).mono fun e w' ⟨k9, hk9, he9, hb9⟩ => ⟨by rw [he9, ← saveL_same HK6.out hk9, HBF.out], hb9⟩
              go_wp2_with fail
              refine wp_region_grows (by kernel_rfl) (by kernel_rfl) ?_
              repeat (first | quiet_step (fail) | (refine wpQuiet_step (fun K hK => ?_); go_simp; simp only [↓IntWalk.iteOmega]; go_simp; refine hK _ ?_; clear hK K))
              quiet_step (exact Calls.grows (HSV.out _))
              repeat (first | quiet_step (fail) | (refine wpQuiet_step (fun K hK => ?_); go_simp; simp only [↓IntWalk.iteOmega]; go_simp; refine hK _ ?_; clear hK K))
              refine wpQuiet_nil ?_
              rintro _ ⟨x9, rfl⟩
              have HM9 : Hid (TMem w (w8.ext x9) p b D8 s5 (.slice (some ⟨g4, 0, none⟩) n c4) ls) := HM8.out.grow (Below.of_ext w8 x9)
              have HBW : Hid (Below w.heap.size w (w8.ext x9)) := HM9.out.below
              clear x0 x1 x2 xl y0 y1 y2 yl z0 z1 z2 hg8 hneq
              by_cases hmax : nn = 1000000
              · have hmx : ((nn : Int) == 1000000) = true := by rw [beq_iff_eq]; omega
                have hmp : (nn : Int) = 1000000 := by omega
                go_wp2_with fail
                all_goals exact bodyPost_ret (v := .bool true) (by simp [results, Try.results8, go_sem]) rfl ⟨rfl, HBW.out⟩
              · have hmx : ((nn : Int) == 1000000) = false := by rw [beq_eq_false_iff_ne]; omega
                have hmp : ¬ (nn : Int) = 1000000 := by omega
                go_wp2_with fail
                have hi4 : (i : Int) < 40 := by have := HIN.out.2; omega
                have hw64 : wrap64 ((i : Int) + 1) = (i : Int) + 1 := by unfold wrap64; omega
                all_goals try rw [hw64]
                all_goals exact ⟨⟨i + 1, nn + 1, D8, s5, by have := HIN.out.1; omega, val_int (by omega), val_int (by omega), ⟨by have := HL.out.1; omega, by have := HL.out.2.1; omega, by rw [HS5.out]; show nn < nn + 1; omega, HB5.out⟩, HM9⟩, by have := HIN.out.1; simp [intOf]; omega⟩
            · have hses2 : (c2.ses != kv) = true := by rw [bne_iff_ne]; exact hses
              have HSN : Hid (¬ c2.ses = kv) := hses
              clear hses
              go_wp2_with (refine wpList_load_mid rfl 23 _ rfl g4 _ rfl _ _ hv5 Try.underlying23 rfl (by kernel_rfl) ?_; clear hnx2 e5 hv5 hz1 hses2 hkind2 r0 r1 r2 hg1 hg4 hqs hqf q0 q1 q2 q3 q4 q5 q6 hn1; refine Held.out ?_)
              unfold Held
              go_simp
              go_wp2_with fail
              refine (twDo (HM3.out.store.grown (by repeat (first | exact Below.refl _ _ | assumption | with_reducible refine below_drewN ?_ _ | refine Gr.ext ?_ _ | refine Gr.alloc ?_ _ | refine Gr.drew ?_ | (refine Gr.set ?_ (by first | (simp; done) | (simp; omega)) _)))) (w3.heap.size) (fun hf => by have := HM3.out.store.foot_lt hf; omega) c2 (Hp.new (by simp)) HC2.out).mono ?_
              rintro e w4 ⟨g2, D4, rfl, hg2, y0, y1, y2, hgf2, hS4, hF4, ht4⟩
              have HM4 : Hid (TMem w w4 p b D4 (s3.result c2).2 (.slice (some ⟨g4, 0, none⟩) n c4) ls) := (HM3.out.grow (by repeat (first | exact Below.refl _ _ | assumption | with_reducible refine below_drewN ?_ _ | refine Gr.ext ?_ _ | refine Gr.alloc ?_ _ | refine Gr.drew ?_ | (refine Gr.set ?_ (by first | (simp; done) | (simp; omega)) _)))).act hS4 hF4 ht4
              have HW4 : Hid (Wat w4 p b D4 qc (c.with kv nn) g1 rr) := (HW3.out.grow (by repeat (first | exact Below.refl _ _ | assumption | with_reducible refine below_drewN ?_ _ | refine Gr.ext ?_ _ | refine Gr.alloc ?_ _ | refine Gr.drew ?_ | (refine Gr.set ?_ (by first | (simp; done) | (simp; omega)) _)))).act hF4 ht4
              have HB4 : Hid (Bnd (s3.result c2).2) := HB3.out.result _ (cmd_bd _ HC2.out)
              have HS4 : Hid (ssAt (s3.result c2).2 ki = (nn, rr)) := (res_other s3 HB3.out.good.ss c2 ki (cmd_bd _ HC2.out) (by have := HKV.out.2.2.1; have := HSN.out; omega)).trans HS3.out
              generalize (s3.result c2).2 = s4 at *
              clear hS4 hF4 ht4 hgf2 hg2 y0 y1 y2 HM3 HW3 HB3 HS3
              obtain ⟨hqs, hqf, q0, q1, q2, q3, q4, q5, q6⟩ := HW4.out.cellsW
              go_wp2_with fail
              obtain ⟨D5, s5, HM5, HW5, HB5, HS5⟩ : ∃ (D5 : DataW Value) (s5 : St), Hid (TMem w w4 p b D5 s5 (.slice (some ⟨g4, 0, none⟩) n c4) ls) ∧ Hid (Wat w4 p b D5 qc (c.with kv nn) g1 rr) ∧ Hid (Bnd s5) ∧ Hid (ssAt s5 ki = (nn, rr)) := ⟨D4, s4, HM4, HW4, HB4, HS4⟩
              clear hqs hqf q0 q1 q2 q3 q4 q5 q6 HM4 HW4 HB4 HS4
              have HDO : Hid (∀ (W : World) (D : DataW Value) (q : Nat), StoreAt W p b D s5 → ¬ footS p b D q → W.heap[q]? = some (.cells #[.int .i64 c.kind, .string c.key, .string c.val, .string c.old, .int .i64 c.rev, .int .i64 kv, .int .i64 (nn : Int)] 23) → Calls Try.prog 31 #[.pointer (some ⟨p, 0, none⟩), .slice (some ⟨q, 0, none⟩) 1 1] W fun e w' => ∃ (g : Nat) (D' : DataW Value), e = .returned (.tuple #[.slice (some ⟨g, 0, none⟩) 1 1, .int .i64 0]) ∧ g < w'.heap.size ∧ w'.cell? ⟨g, 0, none⟩ = some (.bool rr.ok) ∧ w'.cell? ⟨g, 1, none⟩ = some (.int .i64 rr.rev) ∧ w'.cell? ⟨g, 2, none⟩ = some (.bool rr.stale) ∧ ¬ footS p b D' g ∧ StoreAt w' p b D' s5 ∧ (∀ x, footM b D' x → footM b D x ∨ W.heap.size ≤ x) ∧ W.turned w' (footS p b D)) := fun W D q h1 h2 h3 => by
                have h := twDo h1 q h2 (c.with kv nn) h3 HMY.out.1
                rw [res_again s5 (c.with kv nn) ki nn rr HKV.out.2.2.1 rfl HS5.out] at h
                exact h
              have HDL : Hid (∀ (W : World) (D : DataW Value) (q : Nat), StoreAt W p b D s5 → ¬ footS p b D q → W.heap[q]? = some (.cells #[.int .i64 c.kind, .string c.key, .string c.val, .string c.old, .int .i64 c.rev, .int .i64 kv, .int .i64 ((nn : Int) - 1)] 23) → Calls Try.prog 31 #[.pointer (some ⟨p, 0, none⟩), .slice (some ⟨q, 0, none⟩) 1 1] W fun e w' => ∃ (g : Nat) (D' : DataW Value), e = .returned (.tuple #[.slice (some ⟨g, 0, none⟩) 1 1, .int .i64 0]) ∧ g < w'.heap.size ∧ w'.cell? ⟨g, 0, none⟩ = some (.bool (⟨false, s5.rev, true⟩ : Res).ok) ∧ w'.cell? ⟨g, 1, none⟩ = some (.int .i64 (⟨false, s5.rev, true⟩ : Res).rev) ∧ w'.cell? ⟨g, 2, none⟩ = some (.bool (⟨false, s5.rev, true⟩ : Res).stale) ∧ ¬ footS p b D' g ∧ StoreAt w' p b D' s5 ∧ (∀ x, footM b D' x → footM b D x ∨ W.heap.size ≤ x) ∧ W.turned w' (footS p b D)) := fun W D q h1 h2 h3 => by
                have h := twDo h1 q h2 (c.with kv ((nn : Int) - 1)) h3 HMY.out.2
                rw [res_old s5 (c.with kv ((nn : Int) - 1)) ki nn (nn - 1) rr HKV.out.2.2.1 (by show (nn : Int) - 1 = _; have := HL.out.1; omega) HS5.out (by have := HL.out.1; omega)] at h
                exact h
              refine (storeSave _ p b D5 s5 HM5.out.store HB5.out).mono ?_
              rintro e w6 ⟨k6, hk6, he6, hb6⟩
              obtain ⟨bf, hbf⟩ : ∃ bf, B (saveL s5 k6) = bf := ⟨_, rfl⟩
              rw [hbf] at he6
              have HBF : Hid (B (saveL s5 k6) = bf) := hbf
              subst he6
              clear hbf
              have HK6 : Hid (KeysIn s5 k6) := hk6
              have HM6 : Hid (TMem w w6 p b D5 s5 (.slice (some ⟨g4, 0, none⟩) n c4) ls) := HM5.out.grow hb6
              have HW6 : Hid (Wat w6 p b D5 qc (c.with kv nn) g1 rr) := HW5.out.grow hb6
              clear hb6 hk6 HM5 HW5
              obtain ⟨hqs, hqf, q0, q1, q2, q3, q4, q5, q6⟩ := HW6.out.cellsW
              have hnb : (nn : Int) ≤ 1000000 := by have := HL.out.2.1; omega
              have hnb2 : (2 : Int) ≤ nn := by have := HL.out.1; omega
              go_wp2_with fail
              refine (HDO.out _ D5 w6.heap.size (HM6.out.store.grown (by repeat (first | exact Below.refl _ _ | assumption | with_reducible refine below_drewN ?_ _ | refine Gr.ext ?_ _ | refine Gr.alloc ?_ _ | refine Gr.drew ?_ | (refine Gr.set ?_ (by first | (simp; done) | (simp; omega)) _)))) (fun hf => by have := HM6.out.store.foot_lt hf; omega) (Hp.new rfl)).mono ?_
              rintro e w7 ⟨g7, D7, rfl, hg7, y0, y1, y2, hgf7, hS7, hF7, ht7⟩
              have HM7 : Hid (TMem w w7 p b D7 s5 (.slice (some ⟨g4, 0, none⟩) n c4) ls) := (HM6.out.grow (by repeat (first | exact Below.refl _ _ | assumption | with_reducible refine below_drewN ?_ _ | refine Gr.ext ?_ _ | refine Gr.alloc ?_ _ | refine Gr.drew ?_ | (refine Gr.set ?_ (by first | (simp; done) | (simp; omega)) _)))).act hS7 hF7 ht7
              have HW7 : Hid (Wat w7 p b D7 qc (c.with kv nn) g1 rr) := (HW6.out.grow (by repeat (first | exact Below.refl _ _ | assumption | with_reducible refine below_drewN ?_ _ | refine Gr.ext ?_ _ | refine Gr.alloc ?_ _ | refine Gr.drew ?_ | (refine Gr.set ?_ (by first | (simp; done) | (simp; omega)) _)))).act hF7 ht7
              have HV7 : Hid (Wat w7 p b D7 qc (c.with kv nn) g7 rr) := ⟨HW7.out.blk, HW7.out.qf, hg7, y0, y1, y2, hgf7⟩
              clear hS7 hF7 ht7 hgf7 HM6 HW6 hqs hqf q0 q1 q2 q3 q4 q5 q6 y0 y1 y2 hg7
              obtain ⟨hqs, hqf, q0, q1, q2, q3, q4, q5, q6⟩ := HW7.out.cellsW
              go_wp2_with fail
              refine (HDL.out _ D7 (w7.heap.size + 1) (HM7.out.store.grown (by repeat (first | exact Below.refl _ _ | assumption | with_reducible refine below_drewN ?_ _ | refine Gr.ext ?_ _ | refine Gr.alloc ?_ _ | refine Gr.drew ?_ | (refine Gr.set ?_ (by first | (simp; done) | (simp; omega)) _)))) (fun hf => by have := HM7.out.store.foot_lt hf; omega) (Hp.new (by simp))).mono ?_
              rintro e w8 ⟨g8, D8, rfl, hg8, z0, z1, z2, hgf8, hS8, hF8, ht8⟩
              have HM8 : Hid (TMem w w8 p b D8 s5 (.slice (some ⟨g4, 0, none⟩) n c4) ls) := (HM7.out.grow (by repeat (first | exact Below.refl _ _ | assumption | with_reducible refine below_drewN ?_ _ | refine Gr.ext ?_ _ | refine Gr.alloc ?_ _ | refine Gr.drew ?_ | (refine Gr.set ?_ (by first | (simp; done) | (simp; omega)) _)))).act hS8 hF8 ht8
              have HW8 : Hid (Wat w8 p b D8 qc (c.with kv nn) g1 rr) := (HW7.out.grow (by repeat (first | exact Below.refl _ _ | assumption | with_reducible refine below_drewN ?_ _ | refine Gr.ext ?_ _ | refine Gr.alloc ?_ _ | refine Gr.drew ?_ | (refine Gr.set ?_ (by first | (simp; done) | (simp; omega)) _)))).act hF8 ht8
              have HV8 : Hid (Wat w8 p b D8 qc (c.with kv nn) g7 rr) := (HV7.out.grow (by repeat (first | exact Below.refl _ _ | assumption | with_reducible refine below_drewN ?_ _ | refine Gr.ext ?_ _ | refine Gr.alloc ?_ _ | refine Gr.drew ?_ | (refine Gr.set ?_ (by first | (simp; done) | (simp; omega)) _)))).act hF8 ht8
              clear hS8 hF8 ht8 hgf8 HM7 HW7 HV7 hqs hqf q0 q1 q2 q3 q4 q5 q6
              have x0 := HW8.out.x0; have x1 := HW8.out.x1; have x2 := HW8.out.x2; have xl := HW8.out.lt
              have y0 := HV8.out.x0; have y1 := HV8.out.x1; have y2 := HV8.out.x2; have yl := HV8.out.lt
              have hneq : ∀ w, (binOp .neq 72 (.agg #[.bool rr.ok, .int .i64 rr.rev, .bool rr.stale]) (.agg #[.bool rr.ok, .int .i64 rr.rev, .bool rr.stale])).run Try.prog w = .ok (.bool false) w := fun w => by rw [neq_res rr rr w, (Res.same_iff rr rr).2 rfl]; rfl
              have HSV : Hid (∀ x, Calls Try.prog 34 #[.pointer (some ⟨p, 0, none⟩)] (w8.ext x) fun e w' => e = .returned (.string bf) ∧ Below (w8.ext x).heap.size (w8.ext x) w') := fun x => (storeSave _ p b D8 s5 (HM8.out.store.grown (Below.of_ext w8 x)) HB5.out).mono fun e w' ⟨k9, hk9, he9, hb9⟩ => ⟨by rw [he9, ← saveL_same HK6.out hk9, HBF.out], hb9⟩
              go_wp2_with fail
              refine wp_region_grows (by kernel_rfl) (by kernel_rfl) ?_
              repeat (first | quiet_step (fail) | (refine wpQuiet_step (fun K hK => ?_); go_simp; simp only [↓IntWalk.iteOmega]; go_simp; refine hK _ ?_; clear hK K))
              quiet_step (exact Calls.grows (HSV.out _))
              repeat (first | quiet_step (fail) | (refine wpQuiet_step (fun K hK => ?_); go_simp; simp only [↓IntWalk.iteOmega]; go_simp; refine hK _ ?_; clear hK K))
              refine wpQuiet_nil ?_
              rintro _ ⟨x9, rfl⟩
              have HM9 : Hid (TMem w (w8.ext x9) p b D8 s5 (.slice (some ⟨g4, 0, none⟩) n c4) ls) := HM8.out.grow (Below.of_ext w8 x9)
              have HBW : Hid (Below w.heap.size w (w8.ext x9)) := HM9.out.below
              clear x0 x1 x2 xl y0 y1 y2 yl z0 z1 z2 hg8 hneq
              by_cases hmax : nn = 1000000
              · have hmx : ((nn : Int) == 1000000) = true := by rw [beq_iff_eq]; omega
                have hmp : (nn : Int) = 1000000 := by omega
                go_wp2_with fail
                all_goals exact bodyPost_ret (v := .bool true) (by simp [results, Try.results8, go_sem]) rfl ⟨rfl, HBW.out⟩
              · have hmx : ((nn : Int) == 1000000) = false := by rw [beq_eq_false_iff_ne]; omega
                have hmp : ¬ (nn : Int) = 1000000 := by omega
                go_wp2_with fail
                have hi4 : (i : Int) < 40 := by have := HIN.out.2; omega
                have hw64 : wrap64 ((i : Int) + 1) = (i : Int) + 1 := by unfold wrap64; omega
                all_goals try rw [hw64]
                all_goals exact ⟨⟨i + 1, nn + 1, D8, s5, by have := HIN.out.1; omega, val_int (by omega), val_int (by omega), ⟨by have := HL.out.1; omega, by have := HL.out.2.1; omega, by rw [HS5.out]; show nn < nn + 1; omega, HB5.out⟩, HM9⟩, by have := HIN.out.1; simp [intOf]; omega⟩

        · have hnx' : ¬ ((i : Int) + 1 < n) := by omega
          go_wp2_with fail
          all_goals
            clear hnx hnx' hin hi40 hlt h40 hlt' hi
            obtain ⟨D5, s5, HM5, HW5, HB5, HS5⟩ : ∃ (D5 : DataW Value) (s5 : St), Hid (TMem w w3 p b D5 s5 (.slice (some ⟨g4, 0, none⟩) n c4) ls) ∧ Hid (Wat w3 p b D5 qc (c.with kv nn) g1 rr) ∧ Hid (Bnd s5) ∧ Hid (ssAt s5 ki = (nn, rr)) := ⟨D3, s3, HM3, HW3, HB3, HS3⟩
            clear hqs hqf q0 q1 q2 q3 q4 q5 q6 r0 r1 r2 hg1 hn1 HM3 HW3 HB3 HS3
            have HDO : Hid (∀ (W : World) (D : DataW Value) (q : Nat), StoreAt W p b D s5 → ¬ footS p b D q → W.heap[q]? = some (.cells #[.int .i64 c.kind, .string c.key, .string c.val, .string c.old, .int .i64 c.rev, .int .i64 kv, .int .i64 (nn : Int)] 23) → Calls Try.prog 31 #[.pointer (some ⟨p, 0, none⟩), .slice (some ⟨q, 0, none⟩) 1 1] W fun e w' => ∃ (g : Nat) (D' : DataW Value), e = .returned (.tuple #[.slice (some ⟨g, 0, none⟩) 1 1, .int .i64 0]) ∧ g < w'.heap.size ∧ w'.cell? ⟨g, 0, none⟩ = some (.bool rr.ok) ∧ w'.cell? ⟨g, 1, none⟩ = some (.int .i64 rr.rev) ∧ w'.cell? ⟨g, 2, none⟩ = some (.bool rr.stale) ∧ ¬ footS p b D' g ∧ StoreAt w' p b D' s5 ∧ (∀ x, footM b D' x → footM b D x ∨ W.heap.size ≤ x) ∧ W.turned w' (footS p b D)) := fun W D q h1 h2 h3 => by
              have h := twDo h1 q h2 (c.with kv nn) h3 HMY.out.1
              rw [res_again s5 (c.with kv nn) ki nn rr HKV.out.2.2.1 rfl HS5.out] at h
              exact h
            have HDL : Hid (∀ (W : World) (D : DataW Value) (q : Nat), StoreAt W p b D s5 → ¬ footS p b D q → W.heap[q]? = some (.cells #[.int .i64 c.kind, .string c.key, .string c.val, .string c.old, .int .i64 c.rev, .int .i64 kv, .int .i64 ((nn : Int) - 1)] 23) → Calls Try.prog 31 #[.pointer (some ⟨p, 0, none⟩), .slice (some ⟨q, 0, none⟩) 1 1] W fun e w' => ∃ (g : Nat) (D' : DataW Value), e = .returned (.tuple #[.slice (some ⟨g, 0, none⟩) 1 1, .int .i64 0]) ∧ g < w'.heap.size ∧ w'.cell? ⟨g, 0, none⟩ = some (.bool (⟨false, s5.rev, true⟩ : Res).ok) ∧ w'.cell? ⟨g, 1, none⟩ = some (.int .i64 (⟨false, s5.rev, true⟩ : Res).rev) ∧ w'.cell? ⟨g, 2, none⟩ = some (.bool (⟨false, s5.rev, true⟩ : Res).stale) ∧ ¬ footS p b D' g ∧ StoreAt w' p b D' s5 ∧ (∀ x, footM b D' x → footM b D x ∨ W.heap.size ≤ x) ∧ W.turned w' (footS p b D)) := fun W D q h1 h2 h3 => by
              have h := twDo h1 q h2 (c.with kv ((nn : Int) - 1)) h3 HMY.out.2
              rw [res_old s5 (c.with kv ((nn : Int) - 1)) ki nn (nn - 1) rr HKV.out.2.2.1 (by show (nn : Int) - 1 = _; have := HL.out.1; omega) HS5.out (by have := HL.out.1; omega)] at h
              exact h
            refine (storeSave _ p b D5 s5 HM5.out.store HB5.out).mono ?_
            rintro e w6 ⟨k6, hk6, he6, hb6⟩
            obtain ⟨bf, hbf⟩ : ∃ bf, B (saveL s5 k6) = bf := ⟨_, rfl⟩
            rw [hbf] at he6
            have HBF : Hid (B (saveL s5 k6) = bf) := hbf
            subst he6
            clear hbf
            have HK6 : Hid (KeysIn s5 k6) := hk6
            have HM6 : Hid (TMem w w6 p b D5 s5 (.slice (some ⟨g4, 0, none⟩) n c4) ls) := HM5.out.grow hb6
            have HW6 : Hid (Wat w6 p b D5 qc (c.with kv nn) g1 rr) := HW5.out.grow hb6
            clear hb6 hk6 HM5 HW5
            obtain ⟨hqs, hqf, q0, q1, q2, q3, q4, q5, q6⟩ := HW6.out.cellsW
            have hnb : (nn : Int) ≤ 1000000 := by have := HL.out.2.1; omega
            have hnb2 : (2 : Int) ≤ nn := by have := HL.out.1; omega
            go_wp2_with fail
            refine (HDO.out _ D5 w6.heap.size (HM6.out.store.grown (by repeat (first | exact Below.refl _ _ | assumption | with_reducible refine below_drewN ?_ _ | refine Gr.ext ?_ _ | refine Gr.alloc ?_ _ | refine Gr.drew ?_ | (refine Gr.set ?_ (by first | (simp; done) | (simp; omega)) _)))) (fun hf => by have := HM6.out.store.foot_lt hf; omega) (Hp.new rfl)).mono ?_
            rintro e w7 ⟨g7, D7, rfl, hg7, y0, y1, y2, hgf7, hS7, hF7, ht7⟩
            have HM7 : Hid (TMem w w7 p b D7 s5 (.slice (some ⟨g4, 0, none⟩) n c4) ls) := (HM6.out.grow (by repeat (first | exact Below.refl _ _ | assumption | with_reducible refine below_drewN ?_ _ | refine Gr.ext ?_ _ | refine Gr.alloc ?_ _ | refine Gr.drew ?_ | (refine Gr.set ?_ (by first | (simp; done) | (simp; omega)) _)))).act hS7 hF7 ht7
            have HW7 : Hid (Wat w7 p b D7 qc (c.with kv nn) g1 rr) := (HW6.out.grow (by repeat (first | exact Below.refl _ _ | assumption | with_reducible refine below_drewN ?_ _ | refine Gr.ext ?_ _ | refine Gr.alloc ?_ _ | refine Gr.drew ?_ | (refine Gr.set ?_ (by first | (simp; done) | (simp; omega)) _)))).act hF7 ht7
            have HV7 : Hid (Wat w7 p b D7 qc (c.with kv nn) g7 rr) := ⟨HW7.out.blk, HW7.out.qf, hg7, y0, y1, y2, hgf7⟩
            clear hS7 hF7 ht7 hgf7 HM6 HW6 hqs hqf q0 q1 q2 q3 q4 q5 q6 y0 y1 y2 hg7
            obtain ⟨hqs, hqf, q0, q1, q2, q3, q4, q5, q6⟩ := HW7.out.cellsW
            go_wp2_with fail
            refine (HDL.out _ D7 (w7.heap.size + 1) (HM7.out.store.grown (by repeat (first | exact Below.refl _ _ | assumption | with_reducible refine below_drewN ?_ _ | refine Gr.ext ?_ _ | refine Gr.alloc ?_ _ | refine Gr.drew ?_ | (refine Gr.set ?_ (by first | (simp; done) | (simp; omega)) _)))) (fun hf => by have := HM7.out.store.foot_lt hf; omega) (Hp.new (by simp))).mono ?_
            rintro e w8 ⟨g8, D8, rfl, hg8, z0, z1, z2, hgf8, hS8, hF8, ht8⟩
            have HM8 : Hid (TMem w w8 p b D8 s5 (.slice (some ⟨g4, 0, none⟩) n c4) ls) := (HM7.out.grow (by repeat (first | exact Below.refl _ _ | assumption | with_reducible refine below_drewN ?_ _ | refine Gr.ext ?_ _ | refine Gr.alloc ?_ _ | refine Gr.drew ?_ | (refine Gr.set ?_ (by first | (simp; done) | (simp; omega)) _)))).act hS8 hF8 ht8
            have HW8 : Hid (Wat w8 p b D8 qc (c.with kv nn) g1 rr) := (HW7.out.grow (by repeat (first | exact Below.refl _ _ | assumption | with_reducible refine below_drewN ?_ _ | refine Gr.ext ?_ _ | refine Gr.alloc ?_ _ | refine Gr.drew ?_ | (refine Gr.set ?_ (by first | (simp; done) | (simp; omega)) _)))).act hF8 ht8
            have HV8 : Hid (Wat w8 p b D8 qc (c.with kv nn) g7 rr) := (HV7.out.grow (by repeat (first | exact Below.refl _ _ | assumption | with_reducible refine below_drewN ?_ _ | refine Gr.ext ?_ _ | refine Gr.alloc ?_ _ | refine Gr.drew ?_ | (refine Gr.set ?_ (by first | (simp; done) | (simp; omega)) _)))).act hF8 ht8
            clear hS8 hF8 ht8 hgf8 HM7 HW7 HV7 hqs hqf q0 q1 q2 q3 q4 q5 q6
            have x0 := HW8.out.x0; have x1 := HW8.out.x1; have x2 := HW8.out.x2; have xl := HW8.out.lt
            have y0 := HV8.out.x0; have y1 := HV8.out.x1; have y2 := HV8.out.x2; have yl := HV8.out.lt
            have hneq : ∀ w, (binOp .neq 72 (.agg #[.bool rr.ok, .int .i64 rr.rev, .bool rr.stale]) (.agg #[.bool rr.ok, .int .i64 rr.rev, .bool rr.stale])).run Try.prog w = .ok (.bool false) w := fun w => by rw [neq_res rr rr w, (Res.same_iff rr rr).2 rfl]; rfl
            have HSV : Hid (∀ x, Calls Try.prog 34 #[.pointer (some ⟨p, 0, none⟩)] (w8.ext x) fun e w' => e = .returned (.string bf) ∧ Below (w8.ext x).heap.size (w8.ext x) w') := fun x => (storeSave _ p b D8 s5 (HM8.out.store.grown (Below.of_ext w8 x)) HB5.out).mono fun e w' ⟨k9, hk9, he9, hb9⟩ => ⟨by rw [he9, ← saveL_same HK6.out hk9, HBF.out], hb9⟩
            go_wp2_with fail
            refine wp_region_grows (by kernel_rfl) (by kernel_rfl) ?_
            repeat (first | quiet_step (fail) | (refine wpQuiet_step (fun K hK => ?_); go_simp; simp only [↓IntWalk.iteOmega]; go_simp; refine hK _ ?_; clear hK K))
            quiet_step (exact Calls.grows (HSV.out _))
            repeat (first | quiet_step (fail) | (refine wpQuiet_step (fun K hK => ?_); go_simp; simp only [↓IntWalk.iteOmega]; go_simp; refine hK _ ?_; clear hK K))
            refine wpQuiet_nil ?_
            rintro _ ⟨x9, rfl⟩
            have HM9 : Hid (TMem w (w8.ext x9) p b D8 s5 (.slice (some ⟨g4, 0, none⟩) n c4) ls) := HM8.out.grow (Below.of_ext w8 x9)
            have HBW : Hid (Below w.heap.size w (w8.ext x9)) := HM9.out.below
            clear x0 x1 x2 xl y0 y1 y2 yl z0 z1 z2 hg8 hneq
            by_cases hmax : nn = 1000000
            · have hmx : ((nn : Int) == 1000000) = true := by rw [beq_iff_eq]; omega
              have hmp : (nn : Int) = 1000000 := by omega
              go_wp2_with fail
              all_goals exact bodyPost_ret (v := .bool true) (by simp [results, Try.results8, go_sem]) rfl ⟨rfl, HBW.out⟩
            · have hmx : ((nn : Int) == 1000000) = false := by rw [beq_eq_false_iff_ne]; omega
              have hmp : ¬ (nn : Int) = 1000000 := by omega
              go_wp2_with fail
              have hi4 : (i : Int) < 40 := by have := HIN.out.2; omega
              have hw64 : wrap64 ((i : Int) + 1) = (i : Int) + 1 := by unfold wrap64; omega
              all_goals try rw [hw64]
              all_goals exact ⟨⟨i + 1, nn + 1, D8, s5, by have := HIN.out.1; omega, val_int (by omega), val_int (by omega), ⟨by have := HL.out.1; omega, by have := HL.out.2.1; omega, by rw [HS5.out]; show nn < nn + 1; omega, HB5.out⟩, HM9⟩, by have := HIN.out.1; simp [intOf]; omega⟩
    · by_cases hlt : i < n
      · have h40 : ¬ ((i : Int) < 40) := by omega
        go_wp2_with fail
        exact bodyPost_ret (v := .bool true) (by simp [results, Try.results8, go_sem]) rfl ⟨rfl, HM.out.below⟩
      · go_wp2_with fail
        exact bodyPost_ret (v := .bool true) (by simp [results, Try.results8, go_sem]) rfl ⟨rfl, HM.out.below⟩
end Go.Proofs.Ytcbbnmodjnnbeaa
