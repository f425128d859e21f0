/- Load: the sessions are taken. -/
import Derived.Test.YtcbbnmodjnnbeaaLdTake
import Derived.Deep.DeepMust
import Derived.BigQuiet
import Derived.Test.YtcbbnmodjnnbeaaLoadP
import Derived.Test.YtcbbnmodjnnbeaaPreds
set_option linter.unusedSimpArgs false
set_option linter.unusedVariables false
namespace Go.Proofs.Ytcbbnmodjnnbeaa
open Go.RowKit

structure NInv (w0 wr : World) (p b : Nat) (D : DataW Value) (s : St) (r : Nat) (l : List UInt8) (bb : Bool) : Prop where
  store : StoreAt wr p b D s
  rd : RdAt wr r l bb
  rf : ¬ footS p b D r
  turned : w0.turned wr (fun x => footS p b D x ∨ x = r)
theorem NInv.rdStep {w0 wr W : World} {p b : Nat} {D : DataW Value} {s : St} {r : Nat} {l l' : List UInt8} {bb b' : Bool} (h : NInv w0 wr p b D s r l bb) (hr : RdAt W r l' b') (hg : wr.grownBy W (some r)) : NInv w0 W p b D s r l' b' := by
  have hk : ∀ x, x < wr.heap.size → x ≠ r → W.heap[x]? = wr.heap[x]? := fun x hx hn => hg.block x hx fun e => hn (Option.some.inj e)
  have hp : p < wr.heap.size := (Array.getElem?_eq_some_iff.1 h.store.blk).1
  exact ⟨⟨(hk p hp fun e => h.rf (.inl e.symm)).trans h.store.blk, h.store.map.keep fun x hx => hk x (h.store.map.foot_lt hx) fun e => h.rf (.inr (e ▸ hx)), h.store.good, h.store.sz⟩, hr, h.rf, h.turned.trans (.of_grown hg) fun k _ e => .inr (Option.some.inj e).symm⟩
theorem NInv.grow {w0 wr W : World} {p b : Nat} {D : DataW Value} {s : St} {r : Nat} {l : List UInt8} {bb : Bool} (h : NInv w0 wr p b D s r l bb) (hb : Below wr.heap.size wr W) : NInv w0 W p b D s r l bb :=
  h.rdStep (h.rd.keep (hb.block r h.rd.lt)) ⟨hb.os, hb.tape, hb.output, hb.size, fun k hk _ => hb.block k hk⟩
theorem NInv.set {w0 wr : World} {p b : Nat} {D : DataW Value} {s : St} {r : Nat} {l : List UInt8} {bb : Bool} (h : NInv w0 wr p b D s r l bb) (i q : Nat) (x : Res) :
    NInv w0 ((((wr.setCell ⟨p, 3 + i * 4, none⟩ (.int .i64 q)).setCell ⟨p, 3 + i * 4 + 1, none⟩ (.bool x.ok)).setCell ⟨p, 3 + i * 4 + 2, none⟩ (.int .i64 x.rev)).setCell ⟨p, 3 + i * 4 + 3, none⟩ (.bool x.stale)) p b D (s.setSs i (q, x)) r l bb := by
  have hne : r ≠ p := fun e => h.rf (.inl e)
  refine ⟨h.store.setSs i q x, h.rd.keep ?_, h.rf, ?_⟩
  · rw [setCell_heapB, if_neg hne, setCell_heapB, if_neg hne, setCell_heapB, if_neg hne, setCell_heapB, if_neg hne]
  · exact ((((h.turned.set (fun _ => .inl (.inl rfl)) _).set (fun _ => .inl (.inl rfl)) _).set (fun _ => .inl (.inl rfl)) _).set (fun _ => .inl (.inl rfl)) _)
theorem ses_no {res : Option (St × List UInt8 × Bool)} {k : Nat} {s : St} {l : List UInt8} {b : Bool} (h : res = takeS (8 - k) k s l b) (hk : k < 8) (hno : ¬ OkS s.rev (sesR l b).1) : res = none := by
  rw [h, show 8 - k = (8 - (k + 1)) + 1 by omega, takeS_no hno]
theorem ses_yes {res : Option (St × List UInt8 × Bool)} {k : Nat} {s : St} {l : List UInt8} {b : Bool} (h : res = takeS (8 - k) k s l b) (hk : k < 8) (hok : OkS s.rev (sesR l b).1) : res = takeS (8 - (k + 1)) (k + 1) (s.setSs k (sesR l b).1) (sesR l b).2.1 (sesR l b).2.2 := by
  rw [h, show 8 - k = (8 - (k + 1)) + 1 by omega, takeS_yes hok]
set_option maxRecDepth 100000 in
set_option maxHeartbeats 80000000 in
theorem takeSessions (w : World) (p b : Nat) (D : DataW Value) (s : St) (r : Nat) (l : List UInt8) (bb : Bool) (h : StoreAt w p b D s) (hr : RdAt w r l bb) (hl : l.length ≤ maxLen) (hne : ¬ footS p b D r) :
    Calls Try.prog 81 #[.pointer (some ⟨p, 0, none⟩), .pointer (some ⟨r, 0, none⟩)] w fun e w' => w.turned w' (fun x => footS p b D x ∨ x = r) ∧
      ∃ o, Hid (o = takeS 8 0 s l bb) ∧ ((o = none ∧ e = .returned (.bool false)) ∨ ∃ s' l' b', o = some (s', l', b') ∧ e = .returned (.bool true) ∧ StoreAt w' p b D s' ∧ RdAt w' r l' b' ∧ l'.length ≤ maxLen) := by
  obtain ⟨res, hres⟩ : ∃ res, takeS 8 0 s l bb = res := ⟨_, rfl⟩
  have HRS : Hid (takeS 8 0 s l bb = res) := hres
  have HI0 : Hid (NInv w w p b D s r l bb) := ⟨h, hr, hne, World.turned.refl _ _⟩
  have HL0 : Hid (l.length ≤ maxLen) := hl
  clear hres h hr hne hl
  go_enter Try.func81, Try.ntmps81
  go_wp2_with fail
  go_loopw [8] (fun iv wr => ∃ (k : Nat) (s' : St) (l' : List UInt8) (b' : Bool), k ≤ 8 ∧ iv = .int .i64 k ∧ Hid (res = takeS (8 - k) k s' l' b') ∧ Hid (NInv w wr p b D s' r l' b') ∧ Hid (l'.length ≤ maxLen)) (fun iv _ => 8 - (intOf iv).toNat)
  case atStart => exact ⟨0, s, l, bb, by omega, rfl, HRS.out.symm, HI0, HL0⟩
  case round =>
    clear HI0 HL0
    obtain ⟨k, s', l', b', hk, rfl, HT, HI, HL⟩ := hrel
    by_cases hlt : k < 8
    · have hk1 : (k : Int) < 8 := by omega
      have h := HI.out.rd
      have hp0 : ¬ wr.heap.size = r := by have := h.lt; omega
      have hp1 : ¬ wr.heap.size + 1 = r := by have := h.lt; omega
      have hrl := h.lt
      go_wp2_with fail
      refine (numN r l' b' _ (by repeat (first | with_reducible exact h | with_reducible exact RdAt.ok h | with_reducible refine RdAt.ext ?_ _ | with_reducible refine RdOk.at ?_ _ _ | with_reducible refine RdAt.alloc ?_ _ | with_reducible refine RdOk.ext ?_ _ | with_reducible refine RdOk.put ?_ _ _ | with_reducible refine RdOk.alloc ?_ _)) HL.out).mono ?_
      rintro e w1 ⟨t1, H1, hl1, hv1, rfl, x1, rfl⟩
      go_wp2_with fail
      refine (flagN r t1.2.1 t1.2.2 _ (by repeat (first | with_reducible exact h | with_reducible exact RdAt.ok h | with_reducible refine RdAt.ext ?_ _ | with_reducible refine RdOk.at ?_ _ _ | with_reducible refine RdAt.alloc ?_ _ | with_reducible refine RdOk.ext ?_ _ | with_reducible refine RdOk.put ?_ _ _ | with_reducible refine RdOk.alloc ?_ _)) hl1.out).mono ?_
      rintro e w2 ⟨t2, H2, hl2, hv2, rfl, x2, rfl⟩
      go_wp2_with fail
      refine (numN r t2.2.1 t2.2.2 _ (by repeat (first | with_reducible exact h | with_reducible exact RdAt.ok h | with_reducible refine RdAt.ext ?_ _ | with_reducible refine RdOk.at ?_ _ _ | with_reducible refine RdAt.alloc ?_ _ | with_reducible refine RdOk.ext ?_ _ | with_reducible refine RdOk.put ?_ _ _ | with_reducible refine RdOk.alloc ?_ _)) hl2.out).mono ?_
      rintro e w3 ⟨t3, H3, hl3, hv3, rfl, x3, rfl⟩
      have HX : Hid (sesR l' b' = ((t1.1, ⟨t2.1, t3.1, false⟩), t3.2)) := by
        have e1 := H1.out
        have e2 := H2.out
        have e3 := H3.out
        clear H1 H2 H3 hl1 hl2 hl3 hv1 hv2 hv3
        subst e3 e2 e1
        rfl
      obtain ⟨n1, l1, c1⟩ := t1
      obtain ⟨g2, l2, c2⟩ := t2
      obtain ⟨n3, l3, c3⟩ := t3
      simp only at HX hv1 hv3 hl3
      clear H1 H2 H3 hl1 hl2 hv2
      obtain ⟨nk, hnk⟩ : ∃ nk, numB n1 = nk := ⟨_, rfl⟩
      have HNK : Hid (numB n1 = nk) := hnk
      have HNUM : Hid (∀ W, Calls Try.prog 79 #[.int .i64 n1] W fun e w' => e = .returned (.bool nk) ∧ w' = W) := fun W => (checkNumber n1 W).mono fun e w' ⟨h1, h2⟩ => ⟨by rw [h1, HNK.out], h2⟩
      clear hnk
      by_cases hn1 : n1 = 0
      · subst hn1
        cases g2
        · by_cases hm : n3 = 0
          · subst hm
            have hnk : nk = true := by rw [← HNK.out]; rfl
            subst hnk
            go_wp2_with fail
            refine world_any (F := fun W => RdAt W r l3 c3 ∧ wr.grownBy W (some r) ∧ W.heap[wr.heap.size + x1.new.size]? = some (.cells #[.int .i64 0, .bool false, .int .i64 0, .bool false] 138)) ⟨(by repeat (first | with_reducible exact h | with_reducible exact RdAt.ok h | with_reducible refine RdAt.ext ?_ _ | with_reducible refine RdOk.at ?_ _ _ | with_reducible refine RdAt.alloc ?_ _ | with_reducible refine RdOk.ext ?_ _ | with_reducible refine RdOk.put ?_ _ _ | with_reducible refine RdOk.alloc ?_ _)), (by repeat (first | with_reducible exact grownBy_refl _ _ | with_reducible refine gb_ext ?_ _ | with_reducible refine gb_put ?_ _ _ | with_reducible refine gb_alloc ?_ _)), ?_⟩ ?_
            · refine Hp.ext (Hp.ext ?_ _) _
              rw [putRd_heap, if_neg (by omega)]
              exact Hp.new (by first | rfl | (simp [go_sem]; done))
            rintro W5 ⟨hr5, hg5, hc5⟩
            have HI5 : Hid (NInv w W5 p b D s' r l3 c3) := HI.out.rdStep hr5 hg5
            obtain ⟨q, hq⟩ : ∃ q, wr.heap.size + x1.new.size = q := ⟨_, rfl⟩
            rw [hq] at hc5 ⊢
            have hq5 : q < W5.heap.size := (Array.getElem?_eq_some_iff.1 hc5).1
            have d0 : W5.cell? ⟨q, 0, none⟩ = some (.int .i64 0) := by simp only [World.cell?, hc5]; rfl
            have d1 : W5.cell? ⟨q, 1, none⟩ = some (.bool false) := by simp only [World.cell?, hc5]; rfl
            have d2 : W5.cell? ⟨q, 2, none⟩ = some (.int .i64 0) := by simp only [World.cell?, hc5]; rfl
            have d3 : W5.cell? ⟨q, 3, none⟩ = some (.bool false) := by simp only [World.cell?, hc5]; rfl
            have df : ∀ o, W5.frozen? ⟨q, o, none⟩ = false := fun o => by simp [World.frozen?, hc5]
            obtain ⟨e0, e1, e2, ef⟩ := st_cells HI5.out.store.blk
            have hp5 : p < W5.heap.size := (Array.getElem?_eq_some_iff.1 HI5.out.store.blk).1
            clear hr5 hg5 hc5 hq h hp0 hp1 hrl HI
            go_quiet (exact Calls.quiet_of_same (HNUM.out _))
            have HOK : Hid (OkS s'.rev (sesR l' b').1) := by
              show OkS _ _
              rw [HX.out]
              exact ⟨fun _ => rfl, by simp, by simp⟩
            have HT6 : Hid (res = takeS (8 - (k + 1)) (k + 1) (s'.setSs k (0, ⟨false, 0, false⟩)) l3 c3) := by
              have h := ses_yes HT.out hlt HOK.out
              rw [HX.out] at h
              exact h
            obtain ⟨z0, z1, z2, z3⟩ := st_sess HI5.out.store.blk k (by rw [HI5.out.store.good.ss]; exact hlt)
            go_wp2_with fail
            go_region_with fail
            all_goals
              have HI6 : Hid (NInv w (((((W5.drewN (nq + 1)).setCell ⟨p, 3 + k * 4, none⟩ (.int .i64 0)).setCell ⟨p, 3 + k * 4 + 1, none⟩ (.bool false)).setCell ⟨p, 3 + k * 4 + 2, none⟩ (.int .i64 0)).setCell ⟨p, 3 + k * 4 + 3, none⟩ (.bool false)) p b D (s'.setSs k (0, ⟨false, 0, false⟩)) r l3 c3) := NInv.set (HI5.out.grow (W := W5.drewN (nq + 1)) (by repeat (first | exact Below.refl _ _ | assumption | with_reducible refine below_drewN ?_ _ | refine Gr.ext ?_ _ | refine Gr.alloc ?_ _ | refine Gr.drew ?_ | (refine Gr.set ?_ (by first | (simp; done) | (simp; omega)) _)))) k 0 ⟨false, 0, false⟩
              clear z0 z1 z2 z3 d0 d1 d2 d3 df e0 e1 e2 ef hq5 hp5
              go_wp2_with fail
              exact ⟨⟨k + 1, _, l3, c3, by omega, val_int (by omega), HT6, HI6, hl3⟩, by simp [intOf]; omega⟩
          · have hm2 : ¬ ((n3 : Int) = 0) := by omega
            go_wp2_with fail
            refine world_any (F := fun W => RdAt W r l3 c3 ∧ wr.grownBy W (some r) ∧ W.heap[wr.heap.size + x1.new.size]? = some (.cells #[.int .i64 0, .bool false, .int .i64 n3, .bool false] 138)) ⟨(by repeat (first | with_reducible exact h | with_reducible exact RdAt.ok h | with_reducible refine RdAt.ext ?_ _ | with_reducible refine RdOk.at ?_ _ _ | with_reducible refine RdAt.alloc ?_ _ | with_reducible refine RdOk.ext ?_ _ | with_reducible refine RdOk.put ?_ _ _ | with_reducible refine RdOk.alloc ?_ _)), (by repeat (first | with_reducible exact grownBy_refl _ _ | with_reducible refine gb_ext ?_ _ | with_reducible refine gb_put ?_ _ _ | with_reducible refine gb_alloc ?_ _)), ?_⟩ ?_
            · refine Hp.ext (Hp.ext ?_ _) _
              rw [putRd_heap, if_neg (by omega)]
              exact Hp.new (by first | rfl | (simp [go_sem]; done))
            rintro W5 ⟨hr5, hg5, hc5⟩
            have HI5 : Hid (NInv w W5 p b D s' r l3 c3) := HI.out.rdStep hr5 hg5
            obtain ⟨q, hq⟩ : ∃ q, wr.heap.size + x1.new.size = q := ⟨_, rfl⟩
            rw [hq] at hc5 ⊢
            have hq5 : q < W5.heap.size := (Array.getElem?_eq_some_iff.1 hc5).1
            have d0 : W5.cell? ⟨q, 0, none⟩ = some (.int .i64 0) := by simp only [World.cell?, hc5]; rfl
            have d1 : W5.cell? ⟨q, 1, none⟩ = some (.bool false) := by simp only [World.cell?, hc5]; rfl
            have d2 : W5.cell? ⟨q, 2, none⟩ = some (.int .i64 n3) := by simp only [World.cell?, hc5]; rfl
            have d3 : W5.cell? ⟨q, 3, none⟩ = some (.bool false) := by simp only [World.cell?, hc5]; rfl
            have df : ∀ o, W5.frozen? ⟨q, o, none⟩ = false := fun o => by simp [World.frozen?, hc5]
            obtain ⟨e0, e1, e2, ef⟩ := st_cells HI5.out.store.blk
            have hp5 : p < W5.heap.size := (Array.getElem?_eq_some_iff.1 HI5.out.store.blk).1
            clear hr5 hg5 hc5 hq h hp0 hp1 hrl HI
            go_quiet (exact Calls.quiet_of_same (HNUM.out _))
            go_wp2_with fail
            exact bodyPost_ret (v := .bool false) (by simp [results, Try.results81, go_sem]) rfl ⟨(HI5.out.grow (by repeat (first | exact Below.refl _ _ | assumption | with_reducible refine below_drewN ?_ _ | refine Gr.ext ?_ _ | refine Gr.alloc ?_ _ | refine Gr.drew ?_ | (refine Gr.set ?_ (by first | (simp; done) | (simp; omega)) _)))).turned, res, HRS.out.symm, .inl ⟨ses_no HT.out hlt (by rw [HX.out]; exact fun ok => by have := ok.1 rfl; simp at this; omega), rfl⟩⟩
        · skip
          go_wp2_with fail
          refine world_any (F := fun W => RdAt W r l3 c3 ∧ wr.grownBy W (some r) ∧ W.heap[wr.heap.size + x1.new.size]? = some (.cells #[.int .i64 0, .bool true, .int .i64 n3, .bool false] 138)) ⟨(by repeat (first | with_reducible exact h | with_reducible exact RdAt.ok h | with_reducible refine RdAt.ext ?_ _ | with_reducible refine RdOk.at ?_ _ _ | with_reducible refine RdAt.alloc ?_ _ | with_reducible refine RdOk.ext ?_ _ | with_reducible refine RdOk.put ?_ _ _ | with_reducible refine RdOk.alloc ?_ _)), (by repeat (first | with_reducible exact grownBy_refl _ _ | with_reducible refine gb_ext ?_ _ | with_reducible refine gb_put ?_ _ _ | with_reducible refine gb_alloc ?_ _)), ?_⟩ ?_
          · refine Hp.ext (Hp.ext ?_ _) _
            rw [putRd_heap, if_neg (by omega)]
            exact Hp.new (by first | rfl | (simp [go_sem]; done))
          rintro W5 ⟨hr5, hg5, hc5⟩
          have HI5 : Hid (NInv w W5 p b D s' r l3 c3) := HI.out.rdStep hr5 hg5
          obtain ⟨q, hq⟩ : ∃ q, wr.heap.size + x1.new.size = q := ⟨_, rfl⟩
          rw [hq] at hc5 ⊢
          have hq5 : q < W5.heap.size := (Array.getElem?_eq_some_iff.1 hc5).1
          have d0 : W5.cell? ⟨q, 0, none⟩ = some (.int .i64 0) := by simp only [World.cell?, hc5]; rfl
          have d1 : W5.cell? ⟨q, 1, none⟩ = some (.bool true) := by simp only [World.cell?, hc5]; rfl
          have d2 : W5.cell? ⟨q, 2, none⟩ = some (.int .i64 n3) := by simp only [World.cell?, hc5]; rfl
          have d3 : W5.cell? ⟨q, 3, none⟩ = some (.bool false) := by simp only [World.cell?, hc5]; rfl
          have df : ∀ o, W5.frozen? ⟨q, o, none⟩ = false := fun o => by simp [World.frozen?, hc5]
          obtain ⟨e0, e1, e2, ef⟩ := st_cells HI5.out.store.blk
          have hp5 : p < W5.heap.size := (Array.getElem?_eq_some_iff.1 HI5.out.store.blk).1
          clear hr5 hg5 hc5 hq h hp0 hp1 hrl HI
          go_quiet (exact Calls.quiet_of_same (HNUM.out _))
          go_wp2_with fail
          exact bodyPost_ret (v := .bool false) (by simp [results, Try.results81, go_sem]) rfl ⟨(HI5.out.grow (by repeat (first | exact Below.refl _ _ | assumption | with_reducible refine below_drewN ?_ _ | refine Gr.ext ?_ _ | refine Gr.alloc ?_ _ | refine Gr.drew ?_ | (refine Gr.set ?_ (by first | (simp; done) | (simp; omega)) _)))).turned, res, HRS.out.symm, .inl ⟨ses_no HT.out hlt (by rw [HX.out]; exact fun ok => by have := ok.1 rfl; simp at this), rfl⟩⟩
      · have hn2 : ¬ ((n1 : Int) = 0) := by omega
        cases nk
        · have HNB : Hid (¬ n1 ≤ 1000000) := fun h => by have := HNK.out; unfold numB at this; simp at this; omega
          go_wp2_with fail
          refine world_any (F := fun W => RdAt W r l3 c3 ∧ wr.grownBy W (some r) ∧ W.heap[wr.heap.size + x1.new.size]? = some (.cells #[.int .i64 n1, .bool g2, .int .i64 n3, .bool false] 138)) ⟨(by repeat (first | with_reducible exact h | with_reducible exact RdAt.ok h | with_reducible refine RdAt.ext ?_ _ | with_reducible refine RdOk.at ?_ _ _ | with_reducible refine RdAt.alloc ?_ _ | with_reducible refine RdOk.ext ?_ _ | with_reducible refine RdOk.put ?_ _ _ | with_reducible refine RdOk.alloc ?_ _)), (by repeat (first | with_reducible exact grownBy_refl _ _ | with_reducible refine gb_ext ?_ _ | with_reducible refine gb_put ?_ _ _ | with_reducible refine gb_alloc ?_ _)), ?_⟩ ?_
          · refine Hp.ext (Hp.ext ?_ _) _
            rw [putRd_heap, if_neg (by omega)]
            exact Hp.new (by first | rfl | (simp [go_sem]; done))
          rintro W5 ⟨hr5, hg5, hc5⟩
          have HI5 : Hid (NInv w W5 p b D s' r l3 c3) := HI.out.rdStep hr5 hg5
          obtain ⟨q, hq⟩ : ∃ q, wr.heap.size + x1.new.size = q := ⟨_, rfl⟩
          rw [hq] at hc5 ⊢
          have hq5 : q < W5.heap.size := (Array.getElem?_eq_some_iff.1 hc5).1
          have d0 : W5.cell? ⟨q, 0, none⟩ = some (.int .i64 n1) := by simp only [World.cell?, hc5]; rfl
          have d1 : W5.cell? ⟨q, 1, none⟩ = some (.bool g2) := by simp only [World.cell?, hc5]; rfl
          have d2 : W5.cell? ⟨q, 2, none⟩ = some (.int .i64 n3) := by simp only [World.cell?, hc5]; rfl
          have d3 : W5.cell? ⟨q, 3, none⟩ = some (.bool false) := by simp only [World.cell?, hc5]; rfl
          have df : ∀ o, W5.frozen? ⟨q, o, none⟩ = false := fun o => by simp [World.frozen?, hc5]
          obtain ⟨e0, e1, e2, ef⟩ := st_cells HI5.out.store.blk
          have hp5 : p < W5.heap.size := (Array.getElem?_eq_some_iff.1 HI5.out.store.blk).1
          clear hr5 hg5 hc5 hq h hp0 hp1 hrl HI
          go_quiet (exact Calls.quiet_of_same (HNUM.out _))
          go_wp2_with fail
          exact bodyPost_ret (v := .bool false) (by simp [results, Try.results81, go_sem]) rfl ⟨(HI5.out.grow (by repeat (first | exact Below.refl _ _ | assumption | with_reducible refine below_drewN ?_ _ | refine Gr.ext ?_ _ | refine Gr.alloc ?_ _ | refine Gr.drew ?_ | (refine Gr.set ?_ (by first | (simp; done) | (simp; omega)) _)))).turned, res, HRS.out.symm, .inl ⟨ses_no HT.out hlt (by rw [HX.out]; exact fun ok => HNB.out ok.2.1), rfl⟩⟩
        · have HNB : Hid (n1 ≤ 1000000) := by have := HNK.out; unfold numB at this; simp at this; show _ ≤ _; omega
          by_cases hm : n3 ≤ s'.rev
          · have hm2 : ¬ ((s'.rev : Int) < n3) := by omega
            have HM3 : Hid (n3 ≤ s'.rev) := hm
            clear hm
            go_wp2_with fail
            refine world_any (F := fun W => RdAt W r l3 c3 ∧ wr.grownBy W (some r) ∧ W.heap[wr.heap.size + x1.new.size]? = some (.cells #[.int .i64 n1, .bool g2, .int .i64 n3, .bool false] 138)) ⟨(by repeat (first | with_reducible exact h | with_reducible exact RdAt.ok h | with_reducible refine RdAt.ext ?_ _ | with_reducible refine RdOk.at ?_ _ _ | with_reducible refine RdAt.alloc ?_ _ | with_reducible refine RdOk.ext ?_ _ | with_reducible refine RdOk.put ?_ _ _ | with_reducible refine RdOk.alloc ?_ _)), (by repeat (first | with_reducible exact grownBy_refl _ _ | with_reducible refine gb_ext ?_ _ | with_reducible refine gb_put ?_ _ _ | with_reducible refine gb_alloc ?_ _)), ?_⟩ ?_
            · refine Hp.ext (Hp.ext ?_ _) _
              rw [putRd_heap, if_neg (by omega)]
              exact Hp.new (by first | rfl | (simp [go_sem]; done))
            rintro W5 ⟨hr5, hg5, hc5⟩
            have HI5 : Hid (NInv w W5 p b D s' r l3 c3) := HI.out.rdStep hr5 hg5
            obtain ⟨q, hq⟩ : ∃ q, wr.heap.size + x1.new.size = q := ⟨_, rfl⟩
            rw [hq] at hc5 ⊢
            have hq5 : q < W5.heap.size := (Array.getElem?_eq_some_iff.1 hc5).1
            have d0 : W5.cell? ⟨q, 0, none⟩ = some (.int .i64 n1) := by simp only [World.cell?, hc5]; rfl
            have d1 : W5.cell? ⟨q, 1, none⟩ = some (.bool g2) := by simp only [World.cell?, hc5]; rfl
            have d2 : W5.cell? ⟨q, 2, none⟩ = some (.int .i64 n3) := by simp only [World.cell?, hc5]; rfl
            have d3 : W5.cell? ⟨q, 3, none⟩ = some (.bool false) := by simp only [World.cell?, hc5]; rfl
            have df : ∀ o, W5.frozen? ⟨q, o, none⟩ = false := fun o => by simp [World.frozen?, hc5]
            obtain ⟨e0, e1, e2, ef⟩ := st_cells HI5.out.store.blk
            have hp5 : p < W5.heap.size := (Array.getElem?_eq_some_iff.1 HI5.out.store.blk).1
            clear hr5 hg5 hc5 hq h hp0 hp1 hrl HI
            go_quiet (exact Calls.quiet_of_same (HNUM.out _))
            have HOK : Hid (OkS s'.rev (sesR l' b').1) := by
              show OkS _ _
              rw [HX.out]
              exact ⟨fun e => absurd e (by simp only; omega), HNB.out, by simp only; have := HM3.out; omega⟩
            have HT6 : Hid (res = takeS (8 - (k + 1)) (k + 1) (s'.setSs k (n1, ⟨g2, n3, false⟩)) l3 c3) := by
              have h := ses_yes HT.out hlt HOK.out
              rw [HX.out] at h
              exact h
            obtain ⟨z0, z1, z2, z3⟩ := st_sess HI5.out.store.blk k (by rw [HI5.out.store.good.ss]; exact hlt)
            go_wp2_with fail
            go_region_with fail
            all_goals
              have HI6 : Hid (NInv w (((((W5.drewN (nq + 1)).setCell ⟨p, 3 + k * 4, none⟩ (.int .i64 n1)).setCell ⟨p, 3 + k * 4 + 1, none⟩ (.bool g2)).setCell ⟨p, 3 + k * 4 + 2, none⟩ (.int .i64 n3)).setCell ⟨p, 3 + k * 4 + 3, none⟩ (.bool false)) p b D (s'.setSs k (n1, ⟨g2, n3, false⟩)) r l3 c3) := NInv.set (HI5.out.grow (W := W5.drewN (nq + 1)) (by repeat (first | exact Below.refl _ _ | assumption | with_reducible refine below_drewN ?_ _ | refine Gr.ext ?_ _ | refine Gr.alloc ?_ _ | refine Gr.drew ?_ | (refine Gr.set ?_ (by first | (simp; done) | (simp; omega)) _)))) k n1 ⟨g2, n3, false⟩
              clear z0 z1 z2 z3 d0 d1 d2 d3 df e0 e1 e2 ef hq5 hp5
              go_wp2_with fail
              exact ⟨⟨k + 1, _, l3, c3, by omega, val_int (by omega), HT6, HI6, hl3⟩, by simp [intOf]; omega⟩
          · have hm2 : (s'.rev : Int) < n3 := by omega
            have HM3 : Hid (¬ n3 ≤ s'.rev) := hm
            clear hm
            go_wp2_with fail
            refine world_any (F := fun W => RdAt W r l3 c3 ∧ wr.grownBy W (some r) ∧ W.heap[wr.heap.size + x1.new.size]? = some (.cells #[.int .i64 n1, .bool g2, .int .i64 n3, .bool false] 138)) ⟨(by repeat (first | with_reducible exact h | with_reducible exact RdAt.ok h | with_reducible refine RdAt.ext ?_ _ | with_reducible refine RdOk.at ?_ _ _ | with_reducible refine RdAt.alloc ?_ _ | with_reducible refine RdOk.ext ?_ _ | with_reducible refine RdOk.put ?_ _ _ | with_reducible refine RdOk.alloc ?_ _)), (by repeat (first | with_reducible exact grownBy_refl _ _ | with_reducible refine gb_ext ?_ _ | with_reducible refine gb_put ?_ _ _ | with_reducible refine gb_alloc ?_ _)), ?_⟩ ?_
            · refine Hp.ext (Hp.ext ?_ _) _
              rw [putRd_heap, if_neg (by omega)]
              exact Hp.new (by first | rfl | (simp [go_sem]; done))
            rintro W5 ⟨hr5, hg5, hc5⟩
            have HI5 : Hid (NInv w W5 p b D s' r l3 c3) := HI.out.rdStep hr5 hg5
            obtain ⟨q, hq⟩ : ∃ q, wr.heap.size + x1.new.size = q := ⟨_, rfl⟩
            rw [hq] at hc5 ⊢
            have hq5 : q < W5.heap.size := (Array.getElem?_eq_some_iff.1 hc5).1
            have d0 : W5.cell? ⟨q, 0, none⟩ = some (.int .i64 n1) := by simp only [World.cell?, hc5]; rfl
            have d1 : W5.cell? ⟨q, 1, none⟩ = some (.bool g2) := by simp only [World.cell?, hc5]; rfl
            have d2 : W5.cell? ⟨q, 2, none⟩ = some (.int .i64 n3) := by simp only [World.cell?, hc5]; rfl
            have d3 : W5.cell? ⟨q, 3, none⟩ = some (.bool false) := by simp only [World.cell?, hc5]; rfl
            have df : ∀ o, W5.frozen? ⟨q, o, none⟩ = false := fun o => by simp [World.frozen?, hc5]
            obtain ⟨e0, e1, e2, ef⟩ := st_cells HI5.out.store.blk
            have hp5 : p < W5.heap.size := (Array.getElem?_eq_some_iff.1 HI5.out.store.blk).1
            clear hr5 hg5 hc5 hq h hp0 hp1 hrl HI
            go_quiet (exact Calls.quiet_of_same (HNUM.out _))
            go_wp2_with fail
            exact bodyPost_ret (v := .bool false) (by simp [results, Try.results81, go_sem]) rfl ⟨(HI5.out.grow (by repeat (first | exact Below.refl _ _ | assumption | with_reducible refine below_drewN ?_ _ | refine Gr.ext ?_ _ | refine Gr.alloc ?_ _ | refine Gr.drew ?_ | (refine Gr.set ?_ (by first | (simp; done) | (simp; omega)) _)))).turned, res, HRS.out.symm, .inl ⟨ses_no HT.out hlt (by rw [HX.out]; exact fun ok => HM3.out (by have := ok.2.2; simp only at this; omega)), rfl⟩⟩
    · have hkk : k = 8 := by omega
      subst hkk
      have HE : Hid (res = some (s', l', b')) := by have := HT.out; rw [Nat.sub_self, takeS] at this; exact this
      go_wp2_with fail
      exact bodyPost_ret (v := .bool true) (by simp [results, Try.results81, go_sem]) rfl ⟨HI.out.turned, res, HRS.out.symm, .inr ⟨s', l', b', HE.out, rfl, HI.out.store, HI.out.rd, HL.out⟩⟩
end Go.Proofs.Ytcbbnmodjnnbeaa
/- Load: may a version be? -/
set_option linter.unusedSimpArgs false
set_option linter.unusedVariables false
namespace Go.Proofs.Ytcbbnmodjnnbeaa
open Go.RowKit

set_option maxRecDepth 100000 in
set_option maxHeartbeats 8000000 in
theorem mayHave (w : World) (p r : Nat) (x : ByteArray × Ver) (hr : w.cell? ⟨p, 0, none⟩ = some (.int .i64 r)) (hp : p < w.heap.size) (hf : ∀ o, w.frozen? ⟨p, o, none⟩ = false) :
    Calls Try.prog 126 #[.pointer (some ⟨p, 0, none⟩), .string x.1, .agg #[.int .i64 x.2.rev, .string x.2.val, .bool x.2.gone]] w fun e w' => e = .returned (.bool (mayV r x)) ∧ Below w.heap.size w w' := by
  obtain ⟨k, n, v, g⟩ := x
  have hB : (v.toList == []) = noB v := by rw [← noB_isEmpty]; cases v.toList <;> rfl
  by_cases hg : g = true → noB v = true
  · have HM : Hid (mayV r (k, ⟨n, v, g⟩) = (keyB k && valB v && decide (1 ≤ n) && decide (n ≤ r))) := by
      show _ = _
      unfold mayV
      cases g
      · simp
      · simp [hg rfl]
    have hgv : (g && !noB v) = false := by cases g; · rfl
                                           · simp [hg rfl]
    have hgg : g = true → v.size = 0 := fun h => of_decide_eq_true (hg h)
    have HK : Hid (∀ W, Calls Try.prog 118 #[.string k] W fun e w' => e = .returned (.bool (keyB k)) ∧ w' = W) := fun W => checkKey k W
    have HV : Hid (∀ W, Calls Try.prog 119 #[.string v] W fun e w' => e = .returned (.bool (valB v)) ∧ w' = W) := fun W => checkValue v W
    clear hg
    generalize keyB k = kb at *
    generalize valB v = vb at *
    have HC : Hid ((kb = false ∨ kb = true) ∧ (vb = false ∨ vb = true) ∧ (1 ≤ n ∨ ¬ 1 ≤ n) ∧ (n ≤ r ∨ ¬ n ≤ r)) := ⟨by cases kb <;> simp, by cases vb <;> simp, Classical.em _, Classical.em _⟩
    cases g
    all_goals
      go_enter Try.func126, Try.ntmps126
      go_wp2_with fail
      rcases HC.out.1 with hk | hk <;> subst hk
      · go_quiet (first | exact Calls.quiet_of_same (HK.out _) | exact Calls.quiet_of_same (HV.out _))
        go_wp2_with fail
        go_ret
        rw [HM.out]
        exact ⟨ret_bool (by simp), (by repeat (first | exact Below.refl _ _ | assumption | with_reducible refine below_drewN ?_ _ | refine Gr.ext ?_ _ | refine Gr.alloc ?_ _ | refine Gr.drew ?_ | (refine Gr.set ?_ (by first | (simp; done) | (simp; omega)) _)))⟩
      · rcases HC.out.2.1 with hv | hv <;> subst hv
        · go_quiet (first | exact Calls.quiet_of_same (HK.out _) | exact Calls.quiet_of_same (HV.out _))
          go_wp2_with fail
          go_ret
          rw [HM.out]
          exact ⟨ret_bool (by simp), (by repeat (first | exact Below.refl _ _ | assumption | with_reducible refine below_drewN ?_ _ | refine Gr.ext ?_ _ | refine Gr.alloc ?_ _ | refine Gr.drew ?_ | (refine Gr.set ?_ (by first | (simp; done) | (simp; omega)) _)))⟩
        · rcases HC.out.2.2.1 with h1 | h1
          · rcases HC.out.2.2.2 with h2 | h2
            · have h1' : (1 : Int) ≤ n := by omega
              have h2' : (n : Int) ≤ r := by omega
              go_quiet (first | exact Calls.quiet_of_same (HK.out _) | exact Calls.quiet_of_same (HV.out _))
              go_wp2_with fail
              go_ret
              rw [HM.out]
              exact ⟨ret_bool (by simp [h1, h2]), (by repeat (first | exact Below.refl _ _ | assumption | with_reducible refine below_drewN ?_ _ | refine Gr.ext ?_ _ | refine Gr.alloc ?_ _ | refine Gr.drew ?_ | (refine Gr.set ?_ (by first | (simp; done) | (simp; omega)) _)))⟩
            · have h1' : (1 : Int) ≤ n := by omega
              have h2' : ¬ (n : Int) ≤ r := by omega
              go_quiet (first | exact Calls.quiet_of_same (HK.out _) | exact Calls.quiet_of_same (HV.out _))
              go_wp2_with fail
              go_ret
              rw [HM.out]
              exact ⟨ret_bool (by simp [h1, h2]), (by repeat (first | exact Below.refl _ _ | assumption | with_reducible refine below_drewN ?_ _ | refine Gr.ext ?_ _ | refine Gr.alloc ?_ _ | refine Gr.drew ?_ | (refine Gr.set ?_ (by first | (simp; done) | (simp; omega)) _)))⟩
          · have h1' : ¬ (1 : Int) ≤ n := by omega
            go_quiet (first | exact Calls.quiet_of_same (HK.out _) | exact Calls.quiet_of_same (HV.out _))
            go_wp2_with fail
            go_ret
            rw [HM.out]
            exact ⟨ret_bool (by simp [h1]), (by repeat (first | exact Below.refl _ _ | assumption | with_reducible refine below_drewN ?_ _ | refine Gr.ext ?_ _ | refine Gr.alloc ?_ _ | refine Gr.drew ?_ | (refine Gr.set ?_ (by first | (simp; done) | (simp; omega)) _)))⟩
  · obtain ⟨hg1, hg2⟩ := Classical.not_imp.1 hg
    subst hg1
    have hg3 : noB v = false := by cases h : noB v; · rfl
                                   · exact absurd h hg2
    have HM : Hid (mayV r (k, ⟨n, v, true⟩) = false) := by show _ = _; unfold mayV; simp [hg3]
    clear hg hg2
    go_enter Try.func126, Try.ntmps126
    go_wp2_with fail
    go_ret
    exact ⟨ret_bool HM.out.symm, (by repeat (first | exact Below.refl _ _ | assumption | with_reducible refine below_drewN ?_ _ | refine Gr.ext ?_ _ | refine Gr.alloc ?_ _ | refine Gr.drew ?_ | (refine Gr.set ?_ (by first | (simp; done) | (simp; omega)) _)))⟩
end Go.Proofs.Ytcbbnmodjnnbeaa
