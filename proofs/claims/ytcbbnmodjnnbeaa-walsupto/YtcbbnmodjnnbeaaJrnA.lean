/- A journal's Rewrite: the program. -/
import Derived.Test.YtcbbnmodjnnbeaaWalM
set_option linter.unusedSimpArgs false
set_option linter.unusedVariables false
namespace Go.Proofs.Ytcbbnmodjnnbeaa
open Go.RowKit

set_option maxHeartbeats 2000000 in
/-- The first record is none that a journal may have. -/
theorem walBytes0 (a : Option Addr) (cap : Nat) (r : Rec) (rs : List Rec) (w : World) (hn : rs.length ≤ 100000000000) (hm : r.may = false) (hr : w.reads 14 (.slice a (rs.length + 1) cap) ((r :: rs).map Rec.cells)) :
    Calls Try.prog 93 #[.slice a (rs.length + 1) cap] w fun e w' => ∃ v, e = .returned (.tuple #[v, .int .i64 2]) ∧ Below w.heap.size w w' := by
  have hr0 : w.reads 14 (.slice a (r :: rs).length cap) ((r :: rs).map Rec.cells) := hr
  obtain ⟨g1, o1, rfl, hg1, hr1⟩ := Rec.at_reads hr0 (k := 0) (by simp)
  have hr2 : w.rangeAt g1 (o1 + 0 * 14) r.cells := hr1
  obtain ⟨x0, x1, x2, x3, x4, x5, x6, x7, x8, x9, x10, x11, x12, x13⟩ := Rec.off hr2
  simp only [Nat.zero_mul, Nat.add_zero] at x0 x1 x2 x3 x4 x5 x6 x7 x8 x9 x10 x11 x12 x13
  clear hr hr0 hr1 hr2
  go_enter Try.func93, Try.ntmps93
  go_wp2_with fail
  go_loopw [4, 11] (fun bv iv wr => iv = .int .i64 (0 : Nat) ∧ wr = w ∧ bv = .slice none 0 0) (fun _ iv _ => 0)
  case atStart => exact ⟨rfl, rfl, rfl⟩
  case round =>
    obtain ⟨rfl, rfl, rfl⟩ := hrel
    go_wp2_with (go_at_call 14; refine (codecEncode_no r _ hm).mono ?_; rintro e w1 ⟨rfl, hb1⟩; obtain ⟨y1, rfl⟩ := Below.ext hb1; clear hb1)
    go_ret2
    exact ⟨_, rfl, (by repeat (first | exact Below.refl _ _ | assumption | with_reducible refine below_drewN ?_ _ | refine Gr.ext ?_ _ | refine Gr.alloc ?_ _ | refine Gr.drew ?_ | (refine Gr.set ?_ (by first | (simp; done) | (simp; omega)) _)))⟩
def Dk.rewrite (D : Dk) (k : Nat) (l : List UInt8) : Bool × Dk := if (D.cut k).1 = true then (D.cut k).2.write k l else D.cut k
def wRewrite (D : Dk) (k : Nat) (S N : WSt) : Int × (Bool × Dk) × Nat × WSt :=
  if (({ N with gen := S.gen + 1 } : WSt).recs.all fun x => x.may) = true then
    if (D.rewrite (1 - k) (jrnL ({ N with gen := S.gen + 1 } : WSt).recs)).1 = true then (0, D.rewrite (1 - k) (jrnL ({ N with gen := S.gen + 1 } : WSt).recs), 1 - k, { N with gen := S.gen + 1 })
    else (4, D.rewrite (1 - k) (jrnL ({ N with gen := S.gen + 1 } : WSt).recs), k, S)
  else (2, (true, D), k, S)
theorem recs_out {N : WSt} (h : ¬ (0 ≤ N.base ∧ N.base ≤ 1000000)) : N.baseR.may = false ∧ (N.recs.all fun x => x.may) = false := by
  have h1 : N.baseR.may = false := by
    unfold Rec.may
    rw [if_pos (show N.baseR.kind = 1 from rfl)]
    have : numB N.baseR.index = false := by
      show numB N.base = false
      unfold numB
      simp only [Bool.and_eq_false_iff, decide_eq_false_iff_not]
      omega
    rw [this]; simp
  refine ⟨h1, ?_⟩
  unfold WSt.recs
  rw [List.all_cons, h1]; rfl
theorem LiveAt.moved {w W : World} {p : Nat} {v0 v1 : Value} {j : Nat} {lv lv' : Value} {kp : Int} {D : Dk} {k k' : Nat} {S S' : WSt} (h : LiveAt w p v0 v1 j lv kp D k S) (hj : W.heap[j]? = some (.cells (([.pointer (some ⟨p, 0, none⟩), .int .i64 k'] : List Value) ++ S'.cellsA lv').toArray 182)) (ht : w.turned W (fun x => x = j)) (hl : w.ownL 135 8 lv' (S'.log.map Ety.cells)) (hn : ∀ x, lv'.ownBlock = some x → ¬ footD p v0 v1 x ∧ x ≠ j) : LiveAt W p v0 v1 j lv' kp D k' S' := by
  have hk : ∀ x, footD p v0 v1 x → W.heap[x]? = w.heap[x]? := fun x hx => ht.block x (h.disk.foot_lt hx) (fun e => h.njf (e ▸ hx))
  refine ⟨⟨(hk p (.inl rfl)).trans h.disk.blk, h.disk.kq, h.disk.kb, h.disk.db, h.disk.o0.keep fun x hx => hk x (.inr (.inl hx)), h.disk.o1.keep fun x hx => hk x (.inr (.inr hx)), h.disk.n0, h.disk.n1, h.disk.dis, h.disk.fit, fun j' hj' => ?_⟩, ⟨hj, rfl, hl.keep fun x hx => ht.block x (hl.lt hx) (hn x hx).2, fun e => (hn j e).2 rfl⟩, fun x hx => (hn x hx).1⟩
  obtain ⟨e1, e2, e3, _⟩ := h.disk.jb j' hj'
  injection hj' with e
  subst e
  exact ⟨e1, e2, e3, _, rfl, hj⟩
theorem set9 (v0 v1 x2 x3 x4 x5 x6 x7 x8 lv : Value) (T : TypeId) (u : Value) (S : WSt) : (some (Obj.cells (((((((((#[v0, v1, x2, x3, x4, x5, x6, x7, x8] : Array Value).setIfInBounds 1 u).setIfInBounds 2 (.int .i64 S.gen)).setIfInBounds 3 (.int .i64 S.term)).setIfInBounds 4 (.int .i64 S.vote)).setIfInBounds 5 (.int .i64 S.base)).setIfInBounds 6 (.int .i64 S.bterm)).setIfInBounds 7 (.string S.data)).setIfInBounds 8 lv) T)) = some (Obj.cells (([v0, u] : List Value) ++ S.cellsA lv).toArray T) := by
  simp only [List.setIfInBounds_toArray, List.set_cons_succ, List.set_cons_zero]
  rfl
theorem Dk.cut_file {D : Dk} {k : Nat} (h : (D.cut k).1 = true) : ((D.cut k).2.file k).length = 0 := by
  unfold Dk.cut at h ⊢
  split
  · unfold Dk.clr Dk.file
    by_cases hk : k = 0
    · simp [hk]
    · simp [hk]
  · rename_i h1
    rw [if_neg h1] at h
    exact absurd h h1
set_option maxRecDepth 100000 in
set_option maxHeartbeats 8000000 in
theorem walRewrite (w : World) (p : Nat) (v0 v1 : Value) (j : Nat) (lv : Value) (kp : Int) (D : Dk) (k : Nat) (S : WSt) (h : LiveAt w p v0 v1 j lv kp D k S) (hk : k = 0 ∨ k = 1) (N : WSt) (a : Option Addr) (cap : Nat) (hr : N.log ≠ [] → w.reads 8 (.slice a N.log.length cap) (N.log.map Ety.cells))
    (hg : -9000000000 ≤ S.gen ∧ S.gen ≤ 9000000000) (hn : N.log.length ≤ 10000000) (hl : (jrnL ({ N with gen := S.gen + 1 } : WSt).recs).length ≤ 100000000) (hf : (D.file (1 - k)).length ≤ 100000000) :
    Calls Try.prog 100 #[.pointer (some ⟨j, 0, none⟩), .agg (N.cellsA (.slice a N.log.length cap)).toArray] w fun e w' => e = .returned (.int .i64 (wRewrite D k S N).1) ∧ JOut w w' p v0 v1 j lv (wRewrite D k S N).2.1 (wRewrite D k S N).2.2.1 (wRewrite D k S N).2.2.2 := by
  have H : Hid (LiveAt w p v0 v1 j lv kp D k S) := h
  have c0 : w.cell? ⟨j, 0, none⟩ = some (.pointer (some ⟨p, 0, none⟩)) := by simp only [World.cell?, h.st.blk]; rfl
  have c1 : w.cell? ⟨j, 1, none⟩ = some (.int .i64 k) := by simp only [World.cell?, h.st.blk]; rfl
  obtain ⟨q0, q1, q2, q3, q4, q5, q6, qf⟩ := h.st.cells
  have hj := h.st.lt
  obtain ⟨G, hG⟩ : ∃ G : Int, G = S.gen + 1 := ⟨_, rfl⟩
  have w1 : IntKind.i64.wrap (S.gen + 1) = G := by rw [wrap_id _ (by omega) (by omega), hG]
  obtain ⟨k', hk'⟩ : ∃ k', k' = 1 - k := ⟨_, rfl⟩
  have w2 : IntKind.i64.wrap (1 - (k : Int)) = (k' : Int) := by rw [wrap_id _ (by omega) (by omega)]; omega
  have HK' : Hid (k' = 1 - k ∧ (k' = 0 ∨ k' = 1)) := ⟨hk', by omega⟩
  obtain ⟨N', hN'⟩ : ∃ N' : WSt, N' = { N with gen := S.gen + 1 } := ⟨_, rfl⟩
  have HW : Hid (wRewrite D k S N = if (N'.recs.all fun x => x.may) = true then (if (D.rewrite k' (jrnL N'.recs)).1 = true then (0, D.rewrite k' (jrnL N'.recs), k', N') else (4, D.rewrite k' (jrnL N'.recs), k, S)) else (2, (true, D), k, S)) := by
    show _ = _
    rw [hN', hk']; rfl
  rw [← hN'] at hl
  rw [← hk'] at hf
  have hlog : N'.log = N.log := by rw [hN']
  have HR : Hid (N'.log ≠ [] → w.reads 8 (.slice a N'.log.length cap) (N'.log.map Ety.cells)) := by rw [hN']; exact hr
  have HN : Hid (N'.log.length ≤ 100000000) := by rw [hlog]; show _ ≤ _; omega
  have HN8 : Hid (N'.log.length ≤ 10000000) := by rw [hlog]; exact hn
  have HL : Hid ((jrnL N'.recs).length ≤ 100000000) := hl
  have HF : Hid ((D.file k').length ≤ 100000000) := hf
  have e0 : N.cellsA (.slice a N.log.length cap) = [.int .i64 N.gen, .int .i64 N'.term, .int .i64 N'.vote, .int .i64 N'.base, .int .i64 N'.bterm, .string N'.data, .slice a N'.log.length cap] := by rw [hN']; rfl
  have e1 : N'.cellsA (.slice a N'.log.length cap) = [.int .i64 G, .int .i64 N'.term, .int .i64 N'.vote, .int .i64 N'.base, .int .i64 N'.bterm, .string N'.data, .slice a N'.log.length cap] := by rw [hG, hN']; rfl
  rw [e0]
  have HE1 : Hid (N'.cellsA (.slice a N'.log.length cap) = [.int .i64 G, .int .i64 N'.term, .int .i64 N'.vote, .int .i64 N'.base, .int .i64 N'.bterm, .string N'.data, .slice a N'.log.length cap]) := e1
  clear h hr hn hl hf hk hk' hN' hlog e0 e1 hG hg
  go_enter Try.func100, Try.ntmps100
  go_wp2_with fail
  rw [← HE1.out]
  obtain ⟨wa, hwa⟩ : ∃ W, W = w.alloc (.cells (N'.cellsA (.slice a N'.log.length cap)).toArray 90) := ⟨_, rfl⟩
  rw [← hwa]
  have hba : Below w.heap.size w wa := by rw [hwa]; exact (by repeat (first | exact Below.refl _ _ | assumption | with_reducible refine below_drewN ?_ _ | refine Gr.ext ?_ _ | refine Gr.alloc ?_ _ | refine Gr.drew ?_ | (refine Gr.set ?_ (by first | (simp; done) | (simp; omega)) _)))
  clear hwa
  refine (walRecordsOf wa N' a cap (fun hne => (HR.out hne).keep fun x hx => hba.block x (reads_lt (HR.out hne) hx)) HN.out).mono ?_
  rintro e wb ⟨v, l, rfl, ho, hll, hli, hb⟩
  have hbb : Below w.heap.size w wb := hba.trans (hb.mono hba.size)
  have hab := hba.size
  by_cases hbase : 0 ≤ N'.base ∧ N'.base ≤ 1000000
  · have HRS0 : Hid (N'.recs = N'.baseR :: N'.hardR :: l) := by show _ = _; rw [hli hbase.1 hbase.2]; rfl
    obtain ⟨rs, hrs⟩ : ∃ rs, rs = N'.recs := ⟨_, rfl⟩
    rw [← HRS0.out, ← hrs] at ho
    have HRS : Hid (rs = N'.recs) := hrs
    rw [← hrs] at HW HL
    obtain ⟨va, vc, hv, hvc, hvm, -⟩ := ho.cap
    have hlen : rs.length ≤ 1000000000 := by rw [hrs, N'.recs_len]; have := HN.out; omega
    subst hv
    have HO : Hid (OwnR wb wa.heap.size (.slice va rs.length vc) rs) := ho
    have HBB : Hid (Below w.heap.size w wb) := hbb
    have HAB : Hid (w.heap.size ≤ wa.heap.size) := hab
    clear ho hll hli hb hbb hab hba hbase HR hrs
    go_wp2_with fail
    refine (walBytes va vc rs _ (by omega) HL.out (fun _ => HO.out.L.reads)).mono ?_
    rintro e w1 ⟨bv, er, rfl, hb1, hcase⟩
    have hbw : Below w.heap.size w w1 := HBB.out.trans (hb1.mono HBB.out.size)
    have H1 : Hid (LiveAt w1 p v0 v1 j lv kp D k S) := H.out.grown hbw
    have HBW : Hid (Below w.heap.size w w1) := hbw
    have HRD : Hid (w1.reads 14 (.slice va rs.length vc) (rs.map Rec.cells)) := HO.out.L.reads.keep fun x hx => hb1.block x (reads_lt HO.out.L.reads hx)
    have HVK : Hid (∀ x, (Value.slice va rs.length vc).ownBlock = some x → w.heap.size ≤ x ∧ x < w1.heap.size) := fun x hx => by have := (HO.out.lt hx).1; have := (HO.out.lt hx).2; have := HAB.out; have := hb1.size; exact ⟨by omega, by omega⟩
    rcases hcase with ⟨hmay, rfl, hown⟩ | ⟨hmay, rfl⟩
    · have HM : Hid (∀ r ∈ rs, r.may = true) := hmay
      have HBO : Hid (OwnB w1 wb.heap.size bv (jrnL rs)) := hown
      have HWB : Hid (w.heap.size ≤ wb.heap.size) := HBB.out.size
      have e1 : wRewrite D k S N = (if (D.rewrite k' (jrnL rs)).1 = true then (0, D.rewrite k' (jrnL rs), k', N') else (4, D.rewrite k' (jrnL rs), k, S)) := by rw [HW.out, if_pos (List.all_eq_true.2 hmay)]
      have HE : Hid (_ = _) := e1
      have hne : rs ≠ [] := by rw [HRS.out]; unfold WSt.recs; exact List.cons_ne_nil _ _
      obtain ⟨va', vc', hv', -, -, hva⟩ := hown.shape
      obtain ⟨g, hg⟩ : ∃ g, va' = some ⟨g, 0, none⟩ := by
        rcases hva with hva | ⟨g, hva⟩
        · exfalso
          rcases hown.2 with ⟨_, h5⟩ | ⟨g, c, cur, hv, _⟩
          · exact jrnL_ne hne h5
          · rw [hv'] at hv; injection hv with h6; rw [hva] at h6; cases h6
        · exact ⟨g, hva⟩
      subst hg
      obtain ⟨vn, hvn⟩ : ∃ n, n = (jrnL rs).length := ⟨_, rfl⟩
      rw [← hvn] at hv'
      subst hv'
      clear hmay hown hb1 hbw HO HBB HW e1 hva hne hvn HAB
      have z0 : w1.cell? ⟨j, 0, none⟩ = some (.pointer (some ⟨p, 0, none⟩)) := by simp only [World.cell?, H1.out.st.blk]; rfl
      have z1 : w1.cell? ⟨j, 1, none⟩ = some (.int .i64 k) := by simp only [World.cell?, H1.out.st.blk]; rfl
      have zf : ∀ o, w1.frozen? ⟨j, o, none⟩ = false := fun o => by simp [World.frozen?, H1.out.st.blk]
      have hj2 := H1.out.st.lt
      go_wp2_with fail
      go_region
      go_wp2_with fail
      obtain ⟨wd, hwd⟩ : ∃ W, W = w1.drew := ⟨_, rfl⟩
      rw [← hwd]
      have hbd : Below w1.heap.size w1 wd := by rw [hwd]; exact (by repeat (first | exact Below.refl _ _ | assumption | with_reducible refine below_drewN ?_ _ | refine Gr.ext ?_ _ | refine Gr.alloc ?_ _ | refine Gr.drew ?_ | (refine Gr.set ?_ (by first | (simp; done) | (simp; omega)) _)))
      replace H1 : Hid (LiveAt wd p v0 v1 j lv kp D k S) := H1.out.grown hbd
      replace HBO : Hid (OwnB wd wb.heap.size (.slice (some ⟨g, 0, none⟩) vn vc') (jrnL rs)) := HBO.out.keep fun x hx => hbd.block x (HBO.out.lt hx).2
      replace HRD : Hid (wd.reads 14 (.slice va rs.length vc) (rs.map Rec.cells)) := HRD.out.keep fun x hx => hbd.block x (HVK.out x hx).2
      replace HVK : Hid (∀ x, (Value.slice va rs.length vc).ownBlock = some x → w.heap.size ≤ x ∧ x < wd.heap.size) := fun x hx => ⟨(HVK.out x hx).1, Nat.lt_of_lt_of_le (HVK.out x hx).2 hbd.size⟩
      replace HBW : Hid (Below w.heap.size w wd) := HBW.out.trans (hbd.mono HBW.out.size)
      have HFV : Hid (∀ x, footV p v0 v1 j lv x → x < w.heap.size) := fun x hx => H.out.lt hx
      clear hbd hwd z0 z1 zf hj2
      refine (walCut wd p v0 v1 (some j) kp D H1.out.disk k' HK'.out.2).mono ?_
      rintro e w3 ⟨rfl, hd3⟩
      have hj3 := H1.out.out hd3
      have HCF : Hid ((D.cut k').1 = true → ((D.cut k').2.file k').length = 0) := Dk.cut_file
      obtain ⟨r3, hr3⟩ : ∃ r3, r3 = D.cut k' := ⟨_, rfl⟩
      rw [← hr3] at hj3 HCF ⊢
      have HR3 : Hid (r3 = D.cut k') := hr3
      have HJ3 : Hid (JOut wd w3 p v0 v1 j lv r3 k S) := hj3
      clear hd3 hj3 hr3
      obtain ⟨b3, D3⟩ := r3
      cases b3 with
      | false =>
        have e2 : D.rewrite k' (jrnL rs) = (false, D3) := by unfold Dk.rewrite; rw [← HR3.out]; rfl
        go_wp2_with fail
        go_ret
        rw [HE.out, e2]
        exact ⟨rfl, HJ3.out.behind (fun x hx => .inl hx) (World.turned.of_below HBW.out _)⟩
      | true =>
        have HE2 : Hid (D.rewrite k' (jrnL rs) = D3.write k' (jrnL rs)) := by show _ = _; unfold Dk.rewrite; rw [← HR3.out]; rfl
        obtain ⟨u0, u1, kp3, lv3, hl3, hf3, ht3⟩ := HJ3.out.live rfl
        have H3 : Hid (LiveAt w3 p u0 u1 j lv3 kp3 D3 k S) := hl3
        have HF3 : Hid (∀ x, footV p u0 u1 j lv3 x → footV p v0 v1 j lv x ∨ wd.heap.size ≤ x) := hf3
        have HT3 : Hid (wd.turned w3 (footV p v0 v1 j lv)) := ht3
        have HB3 : Hid (OwnB w3 wb.heap.size (.slice (some ⟨g, 0, none⟩) vn vc') (jrnL rs)) := HBO.out.keep fun x hx => ht3.block x (HBO.out.lt hx).2 (fun hf => by have := HFV.out x hf; have := (HBO.out.lt hx).1; have := HWB.out; omega)
        have HC3 : Hid ((D3.file k').length = 0) := HCF.out rfl
        clear hl3 hf3 ht3 HJ3 HBO HR3 HCF
        go_wp2_with fail
        refine (walPut w3 p u0 u1 (some j) kp3 D3 H3.out.disk k' HK'.out.2 g vn vc' (jrnL rs) (ownsRow_base HB3.out fun _ _ => Nat.zero_le _) (by have := HL.out; have := HC3.out; omega)).mono ?_
        rintro e w4 ⟨rfl, hd4⟩
        have hj4 := H3.out.out hd4
        rw [HE2.out] at HE
        obtain ⟨r4, hr4⟩ : ∃ r4, r4 = (D3.app k' (jrnL rs)).act := ⟨_, rfl⟩
        rw [← hr4] at hj4 ⊢
        have HR4 : Hid (r4 = (D3.app k' (jrnL rs)).act) := hr4
        have HJ4 : Hid (JOut wd w4 p v0 v1 j lv r4 k S) := hj4.behind HF3.out HT3.out
        clear hd4 hj4 hr4 HE2 HB3 HC3
        obtain ⟨b4, D4⟩ := r4
        cases b4 with
        | false =>
          have e2 : D3.write k' (jrnL rs) = (false, D4) := by unfold Dk.write; rw [← HR4.out]; rfl
          go_wp2_with fail
          go_ret
          rw [HE.out, e2]
          exact ⟨rfl, HJ4.out.behind (fun x hx => .inl hx) (World.turned.of_below HBW.out _)⟩
        | true =>
          have HE3 : Hid (D3.write k' (jrnL rs) = D4.sync k') := by show _ = _; unfold Dk.write; rw [← HR4.out]; rfl
          obtain ⟨t0, t1, kp4, lv4, hl4, hf4, ht4⟩ := HJ4.out.live rfl
          have H4 : Hid (LiveAt w4 p t0 t1 j lv4 kp4 D4 k S) := hl4
          have HF4 : Hid (∀ x, footV p t0 t1 j lv4 x → footV p v0 v1 j lv x ∨ wd.heap.size ≤ x) := hf4
          have HT4 : Hid (wd.turned w4 (footV p v0 v1 j lv)) := ht4
          clear hl4 hf4 ht4 HJ4 HR4 H3 HF3 HT3
          go_wp2_with fail
          refine (walSync w4 p t0 t1 (some j) kp4 D4 H4.out.disk k' HK'.out.2).mono ?_
          rintro e w5 ⟨rfl, hd5⟩
          have hj5 := H4.out.out hd5
          rw [HE3.out] at HE
          obtain ⟨r5, hr5⟩ : ∃ r5, r5 = D4.sync k' := ⟨_, rfl⟩
          rw [← hr5] at hj5 HE ⊢
          have HJ5 : Hid (JOut wd w5 p v0 v1 j lv r5 k S) := hj5.behind HF4.out HT4.out
          clear hd5 hj5 hr5 HE3
          obtain ⟨b5, D5⟩ := r5
          cases b5 with
          | false =>
            go_wp2_with fail
            go_ret
            rw [HE.out]
            exact ⟨rfl, HJ5.out.behind (fun x hx => .inl hx) (World.turned.of_below HBW.out _)⟩
          | true =>
            obtain ⟨y0, y1, kp5, lv5, hl5, hf5, ht5⟩ := HJ5.out.live rfl
            have H5 : Hid (LiveAt w5 p y0 y1 j lv5 kp5 D5 k S) := hl5
            have HF5 : Hid (∀ x, footV p y0 y1 j lv5 x → footV p v0 v1 j lv x ∨ wd.heap.size ≤ x) := hf5
            have HT5 : Hid (wd.turned w5 (footV p v0 v1 j lv)) := ht5
            have hrd := HRD.out.keep fun x hx => ht5.block x (HVK.out x hx).2 (fun hf => by have := HFV.out x hf; have := (HVK.out x hx).1; omega)
            have hj5 := H5.out.st.lt
            clear hl5 hf5 ht5 HJ5 H4 HF4 HT4
            go_wp2_with fail
            have e3 : rs = N'.baseR :: N'.hardR :: l := HRS.out.trans HRS0.out
            have HTO : Hid (told rs = N') := by show _ = _; rw [HRS.out]; exact told_recs N'
            have hs5 := HT5.out.size
            have HLL : Hid ((N'.hardR :: l).length ≤ 100000000) := by
              have h1 := congrArg List.length HRS0.out
              rw [N'.recs_len] at h1
              have h2 := HN8.out
              show _ ≤ _
              simp only [List.length_cons] at h1 ⊢
              omega
            subst e3
            refine (walStateOf w5 va vc N'.baseR (N'.hardR :: l) hrd hvc hvm HM.out rfl HLL.out).mono ?_
            rintro e w6 ⟨lv6, rfl, hl6, hk6, hb6⟩
            rw [HTO.out] at hl6 ⊢
            have HL6 : Hid (w6.ownL 135 8 lv6 (N'.log.map Ety.cells)) := hl6
            have HK6 : Hid (∀ x, lv6.ownBlock = some x → w5.heap.size ≤ x) := hk6
            have H6 : Hid (LiveAt w6 p y0 y1 j lv5 kp5 D5 k S) := H5.out.grown hb6
            have HB6 : Hid (Below w5.heap.size w5 w6) := hb6
            obtain ⟨a6, c6, hv6⟩ := hl6.len
            rw [List.length_map] at hv6
            obtain ⟨n6, hn6⟩ : ∃ n, n = N'.log.length := ⟨_, rfl⟩
            rw [← hn6] at hv6
            subst hv6
            have hj6 := H6.out.st.lt
            have hb6' := H6.out.st.blk
            have zf : ∀ o, w6.frozen? ⟨j, o, none⟩ = false := fun o => by simp [World.frozen?, hb6']
            unfold WSt.cellsA at hb6'
            simp only [List.cons_append, List.nil_append] at hb6'
            have z1 : w6.cell? ⟨j, 1, none⟩ = some (.int .i64 k) := by simp only [World.cell?, hb6']; rfl
            have z2 : w6.cell? ⟨j, 2, none⟩ = some (.int .i64 S.gen) := by simp only [World.cell?, hb6']; rfl
            have z3 : w6.cell? ⟨j, 3, none⟩ = some (.int .i64 S.term) := by simp only [World.cell?, hb6']; rfl
            have z4 : w6.cell? ⟨j, 4, none⟩ = some (.int .i64 S.vote) := by simp only [World.cell?, hb6']; rfl
            have z5 : w6.cell? ⟨j, 5, none⟩ = some (.int .i64 S.base) := by simp only [World.cell?, hb6']; rfl
            have z6 : w6.cell? ⟨j, 6, none⟩ = some (.int .i64 S.bterm) := by simp only [World.cell?, hb6']; rfl
            have z7 : w6.cell? ⟨j, 7, none⟩ = some (.string S.data) := by simp only [World.cell?, hb6']; rfl
            have z8 : w6.cell? ⟨j, 8, none⟩ = some lv5 := by simp only [World.cell?, hb6']; rfl
            have HB6' : Hid (_ = _) := hb6'
            unfold WSt.cellsA
            clear hb6'
            clear hl6 hk6 hb6 hrd hn6 HRD
            go_wp2_with fail
            refine world_any (F := fun W => W.heap[j]? = some (.cells (([.pointer (some ⟨p, 0, none⟩), .int .i64 k'] : List Value) ++ N'.cellsA (.slice a6 n6 c6)).toArray 182) ∧ w6.turned W (fun x => x = j)) ⟨?_, ?_⟩ ?_
            · refine (cells_set (cells_set (cells_set (cells_set (cells_set (cells_set (cells_set (cells_set HB6'.out _) _) _) _) _) _) _) _).trans ?_
              exact set9 _ _ _ _ _ _ _ _ _ _ _ _ _
            · exact turned_set (S := fun x => x = j) (turned_set (S := fun x => x = j) (turned_set (S := fun x => x = j) (turned_set (S := fun x => x = j) (turned_set (S := fun x => x = j) (turned_set (S := fun x => x = j) (turned_set (S := fun x => x = j) (turned_set (S := fun x => x = j) (World.turned.refl w6 _) rfl _) rfl _) rfl _) rfl _) rfl _) rfl _) rfl _) rfl _
            rintro W ⟨hW1, hW2⟩
            go_ret
            rw [HE.out, if_pos trivial]
            refine ⟨rfl, ?_⟩
            have hn6 : ∀ x, (Value.slice a6 n6 c6).ownBlock = some x → ¬ footD p y0 y1 x ∧ x ≠ j := fun x hx => ⟨fun hf => by have := HK6.out x hx; have := H5.out.disk.foot_lt hf; omega, fun e => by have := HK6.out x hx; omega⟩
            have hL := H6.out.moved hW1 hW2 HL6.out hn6
            have hJ : JOut wd W p v0 v1 j lv (true, D5) k' N' := by
              refine ⟨y0, y1, kp5, .slice a6 n6 c6, fun _ => hL, (fun e => by cases e), fun x hx => ?_, ?_⟩
              · rcases hx with hx | ⟨_, hx⟩
                · exact HF5.out x (.inl hx)
                · exact .inr (by have := HK6.out x hx; omega)
              · exact (HT5.out.trans (World.turned.of_below HB6.out (fun _ => False)) fun _ _ h => h.elim).trans hW2 fun x _ h => .inr (.inl h)
            exact hJ.behind (fun x hx => .inl hx) (World.turned.of_below HBW.out _)
    · have HE : Hid (wRewrite D k S N = (2, (true, D), k, S)) := by
        show _ = _
        rw [HW.out, if_neg]
        intro h
        obtain ⟨r, hr, hm⟩ := hmay
        have := List.all_eq_true.1 h r hr
        rw [hm] at this; cases this
      clear hmay hb1 hbw HO HBB HW
      go_wp2_with fail
      go_ret
      rw [HE.out]
      exact ⟨rfl, H.out.still HBW.out⟩
  · have h0 := recs_out hbase
    have HE : Hid (wRewrite D k S N = (2, (true, D), k, S)) := by
      show _ = _
      rw [HW.out, if_neg (by rw [h0.2]; decide)]
    obtain ⟨va, vc, hv, hvc, hvm, -⟩ := ho.cap
    have HO : Hid (OwnR wb wa.heap.size v (N'.baseR :: N'.hardR :: l)) := ho
    have HM : Hid (N'.baseR.may = false) := h0.1
    have hll' : (N'.hardR :: l).length ≤ 100000000000 := by rw [List.length_cons, hll]; have := HN.out; omega
    have HBB : Hid (Below w.heap.size w wb) := hbb
    subst hv
    clear ho hll hli hb hbb hab hba hbase HR HW h0
    go_wp2_with fail
    refine (walBytes0 va vc N'.baseR (N'.hardR :: l) _ hll' HM.out HO.out.L.reads).mono ?_
    rintro e w1 ⟨bv, rfl, hb1⟩
    have HBW : Hid (Below w.heap.size w w1) := HBB.out.trans (hb1.mono HBB.out.size)
    clear hb1
    go_wp2_with fail
    go_ret
    rw [HE.out]
    exact ⟨rfl, H.out.still HBW.out⟩
set_option maxRecDepth 100000 in
set_option maxHeartbeats 4000000 in
theorem walRewriteOver (w : World) (j : Nat) (h : w.heap[j]? = some (.cells zeroWal 182)) (N : WSt) (a : Option Addr) (n cap : Nat) :
    Calls Try.prog 100 #[.pointer (some ⟨j, 0, none⟩), .agg (N.cellsA (.slice a n cap)).toArray] w fun e w' => e = .returned (.int .i64 4) ∧ Below w.heap.size w w' := by
  have c0 : w.cell? ⟨j, 0, none⟩ = some (.pointer none) := by simp only [World.cell?, h]; rfl
  have qf : ∀ q, w.frozen? ⟨j, q, none⟩ = false := fun q => by simp [World.frozen?, h]
  have hj : j < w.heap.size := (Array.getElem?_eq_some_iff.1 h).1
  unfold WSt.cellsA
  clear h
  go_enter Try.func100, Try.ntmps100
  go_wp2_with fail
  go_ret
  exact ⟨rfl, (by repeat (first | exact Below.refl _ _ | assumption | with_reducible refine below_drewN ?_ _ | refine Gr.ext ?_ _ | refine Gr.alloc ?_ _ | refine Gr.drew ?_ | (refine Gr.set ?_ (by first | (simp; done) | (simp; omega)) _)))⟩
end Go.Proofs.Ytcbbnmodjnnbeaa
/- NewDisk, Break, File: the program. -/
set_option linter.unusedSimpArgs false
set_option linter.unusedVariables false
namespace Go.Proofs.Ytcbbnmodjnnbeaa
open Go.RowKit

def Dk.zero : Dk := ⟨[], 0, [], 0, 0, 0⟩
set_option maxHeartbeats 2000000 in
theorem walNewDisk (w : World) : Calls Try.prog 39 #[] w fun e w' => ∃ p, e = .returned (.pointer (some ⟨p, 0, none⟩)) ∧ DiskAt w' p (.slice none 0 0) (.slice none 0 0) none 0 Dk.zero ∧ w.heap.size ≤ p ∧ Below w.heap.size w w' := by
  go_enter Try.func39, Try.ntmps39
  go_wp2_with fail
  go_ret
  exact ⟨_, rfl, ⟨heap_alloc_new w _, fun h => absurd rfl h, ⟨by decide, by decide⟩, by decide, OwnB.nil _ _, OwnB.nil _ _, (fun h => by cases h), (fun h => by cases h), (fun _ h => by cases h), ⟨Nat.le_refl _, Nat.le_refl _⟩, fun j hj => by cases hj⟩, Nat.le_refl _, (by repeat (first | exact Below.refl _ _ | assumption | with_reducible refine below_drewN ?_ _ | refine Gr.ext ?_ _ | refine Gr.alloc ?_ _ | refine Gr.drew ?_ | (refine Gr.set ?_ (by first | (simp; done) | (simp; omega)) _)))⟩
set_option maxRecDepth 100000 in
set_option maxHeartbeats 4000000 in
theorem walBreak (w : World) (p : Nat) (v0 v1 : Value) (J : Option Nat) (kp : Int) (D : Dk) (h : DiskAt w p v0 v1 J kp D) (x y : Int) (hx : x < 9223372036854775808) (hy : -9223372036854775808 ≤ y ∧ y < 9223372036854775808) :
    Calls Try.prog 84 #[.pointer (some ⟨p, 0, none⟩), .int .i64 x, .int .i64 y] w fun e w' => e = .returned (.int .i64 (if x < 0 then 2 else 0)) ∧ DiskAt w' p v0 v1 J (if x < 0 then kp else y) (if x < 0 then D else { D with due := x.toNat, keep := y }) ∧ w.turned w' (fun k => k = p) := by
  have H : Hid (DiskAt w p v0 v1 J kp D) := h
  obtain ⟨q0, q1, q2, q3, q4, q5, q6, qf⟩ := disk_cells h.blk
  have hp := h.lt
  clear h
  by_cases hneg : x < 0
  · go_enter Try.func84, Try.ntmps84
    go_wp2_with fail
    go_ret
    exact ⟨rfl, H.out, World.turned.refl _ _⟩
  · obtain ⟨n, hn⟩ : ∃ n, n = x.toNat := ⟨_, rfl⟩
    have hxn : x = (n : Int) := by omega
    have HX : Hid (n = x.toNat ∧ ¬ x < 0 ∧ x = (n : Int) ∧ (n : Int) < 9223372036854775808) := ⟨hn, hneg, hxn, by omega⟩
    have HY : Hid (-9223372036854775808 ≤ y ∧ y < 9223372036854775808) := hy
    clear hn hxn hx hy
    go_enter Try.func84, Try.ntmps84
    go_wp2_with fail
    go_ret
    refine ⟨rfl, ?_, turned_set (S := fun k => k = p) (turned_set (S := fun k => k = p) (World.turned.refl w _) rfl _) rfl _⟩
    have hd := H.out
    have hb := cells_set (cells_set hd.blk (o := 4) (.int .i64 x)) (o := 5) (.int .i64 y)
    have hk : ∀ z, z ≠ p → ((w.setCell ⟨p, 4, none⟩ (.int .i64 x)).setCell ⟨p, 5, none⟩ (.int .i64 y)).heap[z]? = w.heap[z]? := fun z hz => (Below.heap_setCell _ _ _ _ hz).trans (Below.heap_setCell _ _ _ _ hz)
    refine ⟨?_, fun _ => rfl, HY.out, ?_, hd.o0.keep fun k hk' => hk k (fun e => hd.n0 (e ▸ hk')), hd.o1.keep fun k hk' => hk k (fun e => hd.n1 (e ▸ hk')), hd.n0, hd.n1, hd.dis, ⟨hd.fit.f0, hd.fit.f1⟩, fun j hj => ?_⟩
    · rw [hb]
      simp only [List.setIfInBounds_toArray, List.set_cons_succ, List.set_cons_zero]
      rw [show (x.toNat : Int) = x by omega]
    · show ((x.toNat : Nat) : Int) < _
      have := HX.out.2.2.2; have := HX.out.2.2.1; omega
    · obtain ⟨e1, e2, e3, cs, e4, e5⟩ := hd.jb j hj
      exact ⟨e1, e2, e3, cs, e4, (hk j e1).trans e5⟩
set_option maxRecDepth 100000 in
set_option maxHeartbeats 4000000 in
theorem walFile (w : World) (p : Nat) (v0 v1 : Value) (J : Option Nat) (kp : Int) (D : Dk) (h : DiskAt w p v0 v1 J kp D) (x : Int) (hl0 : D.b0.length ≤ 1000000000000) (hl1 : D.b1.length ≤ 1000000000000) :
    Calls Try.prog 87 #[.pointer (some ⟨p, 0, none⟩), .int .i64 x] w fun e w' => e = .returned (.tuple #[.string (if x = 0 then B D.b0 else if x = 1 then B D.b1 else ⟨#[]⟩), .int .i64 (if x = 0 ∨ x = 1 then 0 else 7)]) ∧ Below w.heap.size w w' := by
  have H : Hid (DiskAt w p v0 v1 J kp D) := h
  obtain ⟨a0, c0, rfl, hc0, hm0, ha0⟩ := h.o0.shape
  obtain ⟨a1, c1, rfl, hc1, hm1, ha1⟩ := h.o1.shape
  obtain ⟨q0, q1, q2, q3, q4, q5, q6, qf⟩ := disk_cells h.blk
  have cv0 := fun (W : World) (hb : Below w.heap.size w W) => conv_own (h.o0.keep (w' := W) fun k hk => hb.block k (h.o0.lt hk).2)
  have cv1 := fun (W : World) (hb : Below w.heap.size w W) => conv_own (h.o1.keep (w' := W) fun k hk => hb.block k (h.o1.lt hk).2)
  have cv00 := cv0 w (Below.refl _ _)
  have cv11 := cv1 w (Below.refl _ _)
  have hp := h.lt
  clear h cv0 cv1
  by_cases h0 : x = 0
  · subst h0
    go_enter Try.func87, Try.ntmps87
    go_wp2_with fail
    go_ret2
    exact ⟨rfl, (by repeat (first | exact Below.refl _ _ | assumption | with_reducible refine below_drewN ?_ _ | refine Gr.ext ?_ _ | refine Gr.alloc ?_ _ | refine Gr.drew ?_ | (refine Gr.set ?_ (by first | (simp; done) | (simp; omega)) _)))⟩
  · by_cases h1 : x = 1
    · subst h1
      go_enter Try.func87, Try.ntmps87
      go_wp2_with fail
      go_ret2
      exact ⟨rfl, (by repeat (first | exact Below.refl _ _ | assumption | with_reducible refine below_drewN ?_ _ | refine Gr.ext ?_ _ | refine Gr.alloc ?_ _ | refine Gr.drew ?_ | (refine Gr.set ?_ (by first | (simp; done) | (simp; omega)) _)))⟩
    · have b0 : (x != 0) = true := by simp [h0]
      have b1 : (x != 1) = true := by simp [h1]
      go_enter Try.func87, Try.ntmps87
      go_wp2_with fail
      go_ret2
      exact ⟨by simp [h0, h1], (by repeat (first | exact Below.refl _ _ | assumption | with_reducible refine below_drewN ?_ _ | refine Gr.ext ?_ _ | refine Gr.alloc ?_ _ | refine Gr.drew ?_ | (refine Gr.set ?_ (by first | (simp; done) | (simp; omega)) _)))⟩
end Go.Proofs.Ytcbbnmodjnnbeaa
/- The document's disk: NewDisk, Break, File; over. -/
set_option linter.unusedSimpArgs false
set_option linter.unusedVariables false
namespace Go.Proofs.Ytcbbnmodjnnbeaa
open Go.RowKit

/-- The document's disk in memory: User U, Many M. -/
structure RD (w : World) (q : Nat) (D : Dk) (kp : Int) (U M : Nat) : Prop where
  blk : w.heap[q]? = some (.cells #[.string (B D.b0), .string (B D.b1), .int .i64 D.l0, .int .i64 D.l1, .int .i64 D.due, .int .i64 kp, .int .i64 U, .int .i64 M] 222)
  kq : D.due ≠ 0 → kp = D.keep
  kb : -9223372036854775808 ≤ kp ∧ kp < 9223372036854775808
  db : (D.due : Int) < 9223372036854775808
  fit : D.Fit
section
variable {w : World} {q : Nat} {D : Dk} {kp : Int} {U M : Nat}
theorem RD.lt (h : RD w q D kp U M) : q < w.heap.size := (Array.getElem?_eq_some_iff.1 h.blk).1
theorem RD.keep {w' : World} (h : RD w q D kp U M) (hb : w'.heap[q]? = w.heap[q]?) : RD w' q D kp U M := ⟨hb.trans h.blk, h.kq, h.kb, h.db, h.fit⟩
theorem RD.grown {w' : World} (h : RD w q D kp U M) (hb : Below w.heap.size w w') : RD w' q D kp U M := h.keep (hb.block q h.lt)
theorem rd_cells {s0 s1 : ByteArray} {l0 l1 due U M : Nat} (h : w.heap[q]? = some (.cells #[.string s0, .string s1, .int .i64 l0, .int .i64 l1, .int .i64 due, .int .i64 kp, .int .i64 U, .int .i64 M] 222)) :
    w.cell? ⟨q, 0, none⟩ = some (.string s0) ∧ w.cell? ⟨q, 1, none⟩ = some (.string s1) ∧ w.cell? ⟨q, 2, none⟩ = some (.int .i64 l0) ∧ w.cell? ⟨q, 3, none⟩ = some (.int .i64 l1) ∧ w.cell? ⟨q, 4, none⟩ = some (.int .i64 due) ∧ w.cell? ⟨q, 5, none⟩ = some (.int .i64 kp) ∧ w.cell? ⟨q, 6, none⟩ = some (.int .i64 U) ∧ w.cell? ⟨q, 7, none⟩ = some (.int .i64 M) ∧ ∀ o, w.frozen? ⟨q, o, none⟩ = false := by
  refine ⟨?_, ?_, ?_, ?_, ?_, ?_, ?_, ?_, fun o => by simp [World.frozen?, h]⟩
  all_goals (simp only [World.cell?, h]; rfl)
end
set_option maxHeartbeats 2000000 in
theorem refNewDisk (w : World) : Calls Try.prog 82 #[] w fun e w' => ∃ q, e = .returned (.pointer (some ⟨q, 0, none⟩)) ∧ RD w' q Dk.zero 0 0 0 ∧ w.heap.size ≤ q ∧ Below w.heap.size w w' := by
  go_enter Try.func82, Try.ntmps82
  go_wp2_with fail
  go_ret
  exact ⟨_, rfl, ⟨heap_alloc_new w _, fun h => absurd rfl h, ⟨by decide, by decide⟩, by decide, ⟨Nat.le_refl _, Nat.le_refl _⟩⟩, Nat.le_refl _, (by repeat (first | exact Below.refl _ _ | assumption | with_reducible refine below_drewN ?_ _ | refine Gr.ext ?_ _ | refine Gr.alloc ?_ _ | refine Gr.drew ?_ | (refine Gr.set ?_ (by first | (simp; done) | (simp; omega)) _)))⟩
set_option maxRecDepth 100000 in
set_option maxHeartbeats 4000000 in
theorem refBreak (w : World) (q : Nat) (D : Dk) (kp : Int) (U M : Nat) (h : RD w q D kp U M) (x y : Int) (hx : x < 9223372036854775808) (hy : -9223372036854775808 ≤ y ∧ y < 9223372036854775808) :
    Calls Try.prog 85 #[.pointer (some ⟨q, 0, none⟩), .int .i64 x, .int .i64 y] w fun e w' => e = .returned (.int .i64 (if x < 0 then 2 else 0)) ∧ RD w' q (if x < 0 then D else { D with due := x.toNat, keep := y }) (if x < 0 then kp else y) U M ∧ w.turned w' (fun k => k = q) := by
  have H : Hid (RD w q D kp U M) := h
  obtain ⟨q0, q1, q2, q3, q4, q5, q6, q7, qf⟩ := rd_cells h.blk
  have hq := h.lt
  clear h
  by_cases hneg : x < 0
  · go_enter Try.func85, Try.ntmps85
    go_wp2_with fail
    go_ret
    exact ⟨rfl, H.out, World.turned.refl _ _⟩
  · obtain ⟨n, hn⟩ : ∃ n, n = x.toNat := ⟨_, rfl⟩
    have hxn : x = (n : Int) := by omega
    have HX : Hid (n = x.toNat ∧ ¬ x < 0 ∧ x = (n : Int) ∧ (n : Int) < 9223372036854775808) := ⟨hn, hneg, hxn, by omega⟩
    have HY : Hid (-9223372036854775808 ≤ y ∧ y < 9223372036854775808) := hy
    clear hn hxn hx hy
    go_enter Try.func85, Try.ntmps85
    go_wp2_with fail
    go_ret
    refine ⟨rfl, ?_, turned_set (S := fun k => k = q) (turned_set (S := fun k => k = q) (World.turned.refl w _) rfl _) rfl _⟩
    have hd := H.out
    have hb := cells_set (cells_set hd.blk (o := 4) (.int .i64 x)) (o := 5) (.int .i64 y)
    refine ⟨?_, fun _ => rfl, HY.out, ?_, ⟨hd.fit.f0, hd.fit.f1⟩⟩
    · rw [hb]
      simp only [List.setIfInBounds_toArray, List.set_cons_succ, List.set_cons_zero]
      rw [show (x.toNat : Int) = x by omega]
    · show ((x.toNat : Nat) : Int) < _
      have := HX.out.2.2.2; have := HX.out.2.2.1; omega
set_option maxRecDepth 100000 in
set_option maxHeartbeats 4000000 in
theorem refFile (w : World) (q : Nat) (D : Dk) (kp : Int) (U M : Nat) (h : RD w q D kp U M) (x : Int) :
    Calls Try.prog 88 #[.pointer (some ⟨q, 0, none⟩), .int .i64 x] w fun e w' => e = .returned (.tuple #[.string (if x = 0 then B D.b0 else if x = 1 then B D.b1 else ⟨#[]⟩), .int .i64 (if x = 0 ∨ x = 1 then 0 else 7)]) ∧ Below w.heap.size w w' := by
  have H : Hid (RD w q D kp U M) := h
  obtain ⟨q0, q1, q2, q3, q4, q5, q6, q7, qf⟩ := rd_cells h.blk
  have hq := h.lt
  clear h
  by_cases h0 : x = 0
  · subst h0
    go_enter Try.func88, Try.ntmps88
    go_wp2_with fail
    go_ret2
    exact ⟨rfl, (by repeat (first | exact Below.refl _ _ | assumption | with_reducible refine below_drewN ?_ _ | refine Gr.ext ?_ _ | refine Gr.alloc ?_ _ | refine Gr.drew ?_ | (refine Gr.set ?_ (by first | (simp; done) | (simp; omega)) _)))⟩
  · by_cases h1 : x = 1
    · subst h1
      go_enter Try.func88, Try.ntmps88
      go_wp2_with fail
      go_ret2
      exact ⟨rfl, (by repeat (first | exact Below.refl _ _ | assumption | with_reducible refine below_drewN ?_ _ | refine Gr.ext ?_ _ | refine Gr.alloc ?_ _ | refine Gr.drew ?_ | (refine Gr.set ?_ (by first | (simp; done) | (simp; omega)) _)))⟩
    · by_cases h2 : x < 0
      · have b0 : decide (x < 0) = true := by simp [h2]
        go_enter Try.func88, Try.ntmps88
        go_wp2_with fail
        go_ret2
        exact ⟨by simp [h0, h1], (by repeat (first | exact Below.refl _ _ | assumption | with_reducible refine below_drewN ?_ _ | refine Gr.ext ?_ _ | refine Gr.alloc ?_ _ | refine Gr.drew ?_ | (refine Gr.set ?_ (by first | (simp; done) | (simp; omega)) _)))⟩
      · have b0 : decide (x < 0) = false := by simp [h2]
        have b1 : decide (1 < x) = true := by simp; omega
        go_enter Try.func88, Try.ntmps88
        go_wp2_with fail
        go_ret2
        exact ⟨by simp [h0, h1], (by repeat (first | exact Below.refl _ _ | assumption | with_reducible refine below_drewN ?_ _ | refine Gr.ext ?_ _ | refine Gr.alloc ?_ _ | refine Gr.drew ?_ | (refine Gr.set ?_ (by first | (simp; done) | (simp; omega)) _)))⟩
set_option maxRecDepth 100000 in
set_option maxHeartbeats 4000000 in
theorem refOver (w : World) (q y : Nat) (D : Dk) (kp : Int) (U M N c : Nat) (h : RD w q D kp U M) (hy : w.heap[y]? = some (.cells #[.pointer (some ⟨q, 0, none⟩), .int .i64 N, .int .i64 c] 224)) :
    Calls Try.prog 158 #[.pointer (some ⟨y, 0, none⟩)] w fun e w' => e = .returned (.bool (U != N)) ∧ Below w.heap.size w w' := by
  obtain ⟨q0, q1, q2, q3, q4, q5, q6, q7, qf⟩ := rd_cells h.blk
  have hq := h.lt
  have z0 : w.cell? ⟨y, 0, none⟩ = some (.pointer (some ⟨q, 0, none⟩)) := by simp only [World.cell?, hy]; rfl
  have z1 : w.cell? ⟨y, 1, none⟩ = some (.int .i64 N) := by simp only [World.cell?, hy]; rfl
  have hyl : y < w.heap.size := (Array.getElem?_eq_some_iff.1 hy).1
  have hI : ((U : Int) != (N : Int)) = (U != N) := by
    rw [Bool.eq_iff_iff]; simp; omega
  clear h hy
  go_enter Try.func158, Try.ntmps158
  go_wp2_with fail
  go_region
  go_wp2_with fail
  go_ret
  exact ⟨by rw [← hI]; rfl, (by repeat (first | exact Below.refl _ _ | assumption | with_reducible refine below_drewN ?_ _ | refine Gr.ext ?_ _ | refine Gr.alloc ?_ _ | refine Gr.drew ?_ | (refine Gr.set ?_ (by first | (simp; done) | (simp; omega)) _)))⟩
end Go.Proofs.Ytcbbnmodjnnbeaa
