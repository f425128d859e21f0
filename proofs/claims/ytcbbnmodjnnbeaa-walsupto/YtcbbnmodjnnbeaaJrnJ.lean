/- The document's Rewrite. -/
import Derived.Test.YtcbbnmodjnnbeaaJrnI
import Derived.Test.YtcbbnmodjnnbeaaJrnS
set_option linter.unusedSimpArgs false
set_option linter.unusedVariables false
namespace Go.Proofs.Ytcbbnmodjnnbeaa
open Go.RowKit

theorem recs_eq {N : WSt} {l : List Rec} (hl : 0 ≤ N.base → N.base ≤ 1000000 → l = itemsR N.base N.log) : (N.recs.all fun x => x.may) = ((N.baseR :: N.hardR :: l).all fun x => x.may) ∧ (((N.baseR :: N.hardR :: l).all fun x => x.may) = true → N.baseR :: N.hardR :: l = N.recs) := by
  by_cases hb : 0 ≤ N.base ∧ N.base ≤ 1000000
  · have h := hl hb.1 hb.2
    subst h
    exact ⟨rfl, fun _ => rfl⟩
  · obtain ⟨h1, h2⟩ := recs_out hb
    have h3 : ((N.baseR :: N.hardR :: l).all fun x => x.may) = false := by rw [List.all_cons, h1]; rfl
    exact ⟨by rw [h2, h3], fun h => by rw [h3] at h; cases h⟩
theorem rd_turn {w w' : World} {q y : Nat} {b : Obj} (ht : w.turned w' (fun k => k = q)) (hy : y < w.heap.size) (hn : y ≠ q) (h : w.heap[y]? = some b) : w'.heap[y]? = some b := (ht.block y hy hn).trans h
set_option maxRecDepth 100000 in
set_option maxHeartbeats 8000000 in
theorem refRewrite (w : World) (q y : Nat) (D : Dk) (kp : Int) (U M c : Nat) (h : RD w q D kp U M) (hy : w.heap[y]? = some (.cells #[.pointer (some ⟨q, 0, none⟩), .int .i64 U, .int .i64 c] 224)) (hyq : y ≠ q) (hc : c = 0 ∨ c = 1) (S : WSt) (rs0 : List Rec) (hL : Liv D c S rs0) (N : WSt) (a : Option Addr) (cap : Nat) (hr : N.log ≠ [] → w.reads 8 (.slice a N.log.length cap) (N.log.map Ety.cells)) (hn : N.log.length ≤ 10000000) (hl : (jrnL ({ N with gen := S.gen + 1 } : WSt).recs).length ≤ 100000000) (m : Nat) (hle : D.Le m) (hm : m ≤ 100000000) :
    Calls Try.prog 134 #[.pointer (some ⟨y, 0, none⟩), .agg (N.cellsA (.slice a N.log.length cap)).toArray] w fun e w' => e = .returned (.int .i64 (wRewrite D c S N).1) ∧ RD w' q (wRewrite D c S N).2.1.2 kp (if (wRewrite D c S N).2.1.1 = true then U else 0) M ∧ w'.heap[y]? = some (.cells #[.pointer (some ⟨q, 0, none⟩), .int .i64 U, .int .i64 (wRewrite D c S N).2.2.1] 224) ∧ w.turned w' (fun k => k = q ∨ k = y) := by
  have H : Hid (RD w q D kp U M) := h
  have HY : Hid (w.heap[y]? = some (.cells #[.pointer (some ⟨q, 0, none⟩), .int .i64 U, .int .i64 c] 224)) := hy
  have hyl : y < w.heap.size := (Array.getElem?_eq_some_iff.1 hy).1
  have hql : q < w.heap.size := h.lt
  have HC : Hid (c = 0 ∨ c = 1) := hc
  have HLV : Hid (Liv D c S rs0) := hL
  have HLE : Hid (D.Le m) := hle
  have HMM : Hid (m ≤ 100000000) := hm
  have hg := hL.gen
  obtain ⟨G, hG⟩ : ∃ G : Int, G = S.gen + 1 := ⟨_, rfl⟩
  have w1 : IntKind.i64.wrap (S.gen + 1) = G := by rw [wrap_id _ (by omega) (by omega), hG]
  obtain ⟨k', hk'⟩ : ∃ k', k' = 1 - c := ⟨_, rfl⟩
  have w2 : IntKind.i64.wrap (1 - (c : Int)) = (k' : Int) := by rw [wrap_id _ (by omega) (by omega)]; omega
  have HK' : Hid (k' = 0 ∨ k' = 1) := by show _ ∨ _; omega
  obtain ⟨N', hN'⟩ : ∃ N' : WSt, N' = { N with gen := S.gen + 1 } := ⟨_, rfl⟩
  have HW : Hid (wRewrite D c S N = if (N'.recs.all fun x => x.may) = true then (if (D.rewrite k' (jrnL N'.recs)).1 = true then (0, D.rewrite k' (jrnL N'.recs), k', N') else (4, D.rewrite k' (jrnL N'.recs), c, S)) else (2, (true, D), c, S)) := by
    show _ = _
    rw [hN', hk']; rfl
  rw [← hN'] at hl
  have hlog : N'.log = N.log := by rw [hN']
  have HR : Hid (N'.log ≠ [] → w.reads 8 (.slice a N'.log.length cap) (N'.log.map Ety.cells)) := by rw [hN']; exact hr
  have HN : Hid (N'.log.length ≤ 10000000) := by rw [hlog]; exact hn
  have HL : Hid ((jrnL N'.recs).length ≤ 100000000) := hl
  have e0 : N.cellsA (.slice a N.log.length cap) = [.int .i64 N.gen, .int .i64 N'.term, .int .i64 N'.vote, .int .i64 N'.base, .int .i64 N'.bterm, .string N'.data, .slice a N'.log.length cap] := by rw [hN']; rfl
  have e1 : N'.cellsA (.slice a N'.log.length cap) = [.int .i64 G, .int .i64 N'.term, .int .i64 N'.vote, .int .i64 N'.base, .int .i64 N'.bterm, .string N'.data, .slice a N'.log.length cap] := by rw [hG, hN']; rfl
  rw [e0]
  have HE1 : Hid (N'.cellsA (.slice a N'.log.length cap) = [.int .i64 G, .int .i64 N'.term, .int .i64 N'.vote, .int .i64 N'.base, .int .i64 N'.bterm, .string N'.data, .slice a N'.log.length cap]) := e1
  obtain ⟨X, hX⟩ : ∃ X, X = wRewrite D c S N := ⟨_, rfl⟩
  rw [← hX] at HW ⊢
  obtain ⟨Z, hZ⟩ : ∃ Z, Z = if X.2.1.1 = true then U else 0 := ⟨_, rfl⟩
  rw [← hZ]
  have HZ : Hid (Z = if X.2.1.1 = true then U else 0) := hZ
  obtain ⟨ln, hln⟩ : ∃ n, n = N'.log.length := ⟨_, rfl⟩
  rw [← hln]
  rw [← hln] at HE1
  have HLN : Hid (ln = N'.log.length) := hln
  clear h hy hr hn hl hc hk' hN' hlog e0 e1 hG hg hL hle hm hX hln hZ
  go_enter Try.func134, Try.ntmps134
  go_wp2_with fail
  obtain ⟨Wa, hWeq⟩ : ∃ W, W = w.alloc (.cells #[.int .i64 N.gen, .int .i64 N'.term, .int .i64 N'.vote, .int .i64 N'.base, .int .i64 N'.bterm, .string N'.data, .slice a ln cap] 90) := ⟨_, rfl⟩
  rw [← hWeq]
  have hbW : Below w.heap.size w Wa := by rw [hWeq]; exact (by repeat (first | exact Below.refl _ _ | assumption | with_reducible refine below_drewN ?_ _ | refine Gr.ext ?_ _ | refine Gr.alloc ?_ _ | refine Gr.drew ?_ | (refine Gr.set ?_ (by first | (simp; done) | (simp; omega)) _)))
  have hWr : Wa.heap[w.heap.size]? = some (.cells #[.int .i64 N.gen, .int .i64 N'.term, .int .i64 N'.vote, .int .i64 N'.base, .int .i64 N'.bterm, .string N'.data, .slice a ln cap] 90) := by rw [hWeq]; exact Hp.new rfl
  have HBW : Hid (Below w.heap.size w Wa) := hbW
  have HWR : Hid (Wa.heap[w.heap.size]? = some (.cells #[.int .i64 N.gen, .int .i64 N'.term, .int .i64 N'.vote, .int .i64 N'.base, .int .i64 N'.bterm, .string N'.data, .slice a ln cap] 90)) := hWr
  have hrW : w.heap.size < Wa.heap.size := (Array.getElem?_eq_some_iff.1 hWr).1
  have HOV := refOver Wa q y D kp U M U c (H.out.grown hbW) ((hbW.block y hyl).trans HY.out)
  rw [show (U != U) = false by simp] at HOV
  have HOV' : Hid (Calls Try.prog 158 #[.pointer (some ⟨y, 0, none⟩)] Wa fun e w' => e = .returned (.bool false) ∧ Below Wa.heap.size Wa w') := HOV
  clear hWr hbW hWeq HOV
  refine HOV'.out.mono ?_
  rintro e Wb ⟨rfl, hb1⟩
  have HB1 : Hid (Below w.heap.size w Wb) := belowVia hb1 HBW.out
  have HR1 : Hid (Wb.heap[w.heap.size]? = some (.cells #[.int .i64 N.gen, .int .i64 N'.term, .int .i64 N'.vote, .int .i64 N'.base, .int .i64 N'.bterm, .string N'.data, .slice a ln cap] 90)) := (hb1.block _ hrW).trans HWR.out
  have hrB : w.heap.size < Wb.heap.size := by have := hb1.size; omega
  have HT := refState0 Wb q y D kp U M U c (H.out.grown HB1.out) ((HB1.out.block y hyl).trans HY.out) HC.out S rs0 HLV.out (by have := HLE.out.file c; have := HMM.out; omega)
  have HT' : Hid (Calls Try.prog 160 #[.pointer (some ⟨y, 0, none⟩)] Wb fun e w' => ∃ lv, e = .returned (.agg (S.cellsA lv).toArray) ∧ w'.ownL 135 8 lv (S.log.map Ety.cells) ∧ (∀ k, lv.ownBlock = some k → Wb.heap.size ≤ k) ∧ Below Wb.heap.size Wb w') := HT
  clear hb1 HOV' HT HWR HBW
  go_wp2_with fail
  refine HT'.out.mono ?_
  rintro e Wc ⟨lv, rfl, hol, hlk, hb2⟩
  have HB2 : Hid (Below w.heap.size w Wc) := belowVia hb2 HB1.out
  have HR2 : Hid (Wc.heap[w.heap.size]? = some (.cells #[.int .i64 N.gen, .int .i64 N'.term, .int .i64 N'.vote, .int .i64 N'.base, .int .i64 N'.bterm, .string N'.data, .slice a ln cap] 90)) := (hb2.block _ hrB).trans HR1.out
  have hrC : w.heap.size < Wc.heap.size := by have := hb2.size; omega
  have zf : ∀ o, Wc.frozen? ⟨w.heap.size, o, none⟩ = false := fun o => by simp [World.frozen?, HR2.out]
  have z0 : Wc.cell? ⟨w.heap.size, 0, none⟩ = some (.int .i64 N.gen) := by simp only [World.cell?, HR2.out]; rfl
  have z1 : Wc.cell? ⟨w.heap.size, 1, none⟩ = some (.int .i64 N'.term) := by simp only [World.cell?, HR2.out]; rfl
  have z2 : Wc.cell? ⟨w.heap.size, 2, none⟩ = some (.int .i64 N'.vote) := by simp only [World.cell?, HR2.out]; rfl
  have z3 : Wc.cell? ⟨w.heap.size, 3, none⟩ = some (.int .i64 N'.base) := by simp only [World.cell?, HR2.out]; rfl
  have z4 : Wc.cell? ⟨w.heap.size, 4, none⟩ = some (.int .i64 N'.bterm) := by simp only [World.cell?, HR2.out]; rfl
  have z5 : Wc.cell? ⟨w.heap.size, 5, none⟩ = some (.string N'.data) := by simp only [World.cell?, HR2.out]; rfl
  have z6 : Wc.cell? ⟨w.heap.size, 6, none⟩ = some (.slice a ln cap) := by simp only [World.cell?, HR2.out]; rfl
  have hfld : ∀ (x0 x1 x2 x3 x4 x5 x6 : Value) (w : World), (Instr.field 90 (.agg #[x0, x1, x2, x3, x4, x5, x6]) 0).run Try.prog w = .ok x0 w := fun _ _ _ _ _ _ _ _ => by kernel_rfl
  unfold WSt.cellsA
  clear hol hlk hb2 HT' HR1 HB1
  go_wp2_with fail
  obtain ⟨W, hWeq⟩ : ∃ W, W = Wc.setCell ⟨w.heap.size, 0, none⟩ (.int .i64 G) := ⟨_, rfl⟩
  rw [← hWeq]
  have HB3 : Hid (Below w.heap.size w W) := by show Below _ _ _; rw [hWeq]; exact Gr.set HB2.out (Nat.le_refl _) _
  rw [← HE1.out]
  have HRC : Hid (∀ W, Below w.heap.size w W → Calls Try.prog 161 #[.agg (N'.cellsA (.slice a ln cap)).toArray] W fun e w' => ∃ v l, e = .returned v ∧ OwnR w' W.heap.size v (N'.baseR :: N'.hardR :: l) ∧ l.length = N'.log.length ∧ (0 ≤ N'.base → N'.base ≤ 1000000 → l = itemsR N'.base N'.log) ∧ Below W.heap.size W w') := by
    intro W hW
    rw [HLN.out]
    exact refRecords W N' a cap (fun hne => (HR.out hne).keep fun x hx => hW.block x (reads_lt (HR.out hne) hx)) (by have := HN.out; omega)
  refine (HRC.out W HB3.out).mono ?_
  rintro e Wd ⟨v, l, rfl, ho, hll, hli, hb⟩
  have HBd : Hid (Below w.heap.size w Wd) := belowVia hb HB3.out
  obtain ⟨hq1, hq2⟩ := recs_eq hli
  obtain ⟨rs, hrs⟩ : ∃ rs, rs = N'.baseR :: N'.hardR :: l := ⟨_, rfl⟩
  rw [← hrs] at ho hq1 hq2
  have HQ1 : Hid ((N'.recs.all fun x => x.may) = (rs.all fun x => x.may)) := hq1
  have HQ2 : Hid ((rs.all fun x => x.may) = true → rs = N'.recs) := hq2
  have hrl : rs.length = N'.log.length + 2 := by rw [hrs]; simp only [List.length_cons]; omega
  obtain ⟨va, vc, hv, hvc, hvm, -⟩ := ho.cap
  subst hv
  have HRS : Hid (Wd.reads 14 (.slice va rs.length vc) (rs.map Rec.cells)) := ho.L.reads
  have HVQ : Hid (∀ x, (Value.slice va rs.length vc).ownBlock = some x → x ≠ q) := fun x hx e => by have := (ho.lt hx).1; have := HB3.out.size; omega
  obtain ⟨n, hn⟩ : ∃ n, n = rs.length := ⟨_, rfl⟩
  have HNL : Hid (n = rs.length) := hn
  rw [← hn] at HVQ
  rw [← hn]
  have hn9 : n ≤ 100000000 := by have := HN.out; omega
  have HD0 : Hid (RD Wd q D kp U M) := H.out.grown HBd.out
  clear ho hll hli hb hq1 hq2 hrs hrl hvc hvm hn hWeq HRC z0 z1 z2 z3 z4 z5 z6 zf hfld HB2 HR2
  go_wp2_with fail
  go_loopw [7] (fun iv wr => ∃ k : Nat, k ≤ n ∧ iv = .int .i64 k ∧ Hid ((rs.take k).all (fun x => x.may) = true) ∧ Hid (Below Wd.heap.size Wd wr)) (fun iv _ => n - (intOf iv).toNat)
  case atStart => exact ⟨0, Nat.zero_le _, rfl, by show _ = _; simp, Below.refl _ _⟩
  case round =>
    obtain ⟨k, hk, rfl, HM, HB⟩ := hrel
    by_cases hlt : k < n
    · have hlt' : k < rs.length := by rw [← HNL.out]; exact hlt
      have hrr : wr.reads 14 (.slice va rs.length vc) (rs.map Rec.cells) := HRS.out.keep fun k hk => HB.out.block k (reads_lt HRS.out hk)
      obtain ⟨g1, o1, rfl, hg1, hr1⟩ := Rec.at_reads hrr hlt'
      have HSN : Hid (rs.take (k + 1) = rs.take k ++ [rs[k]]) := by show _ = _; rw [List.take_succ_eq_append_getElem hlt']
      have HIN : Hid (rs[k] ∈ rs) := List.getElem_mem hlt'
      generalize rs[k] = r at hr1 HSN HIN
      obtain ⟨x0, x1, x2, x3, x4, x5, x6, x7, x8, x9, x10, x11, x12, x13⟩ := Rec.off hr1
      clear hr1 hrr hlt'
      go_wp2_with fail
      refine (refMayRec r _).mono ?_
      rintro e w2 ⟨rfl, hb2⟩
      have HB2 : Hid (Below Wd.heap.size Wd w2) := HB.out.trans (hb2.mono HB.out.size)
      clear hb2
      cases hmay : r.may with
      | false =>
        have HE : Hid (X = (2, (true, D), c, S)) := by
          show _ = _
          rw [HW.out, HQ1.out, if_neg]
          intro h1
          have := List.all_eq_true.1 h1 r HIN.out
          rw [hmay] at this; cases this
        have HBX : Hid (Below w.heap.size w w2) := HBd.out.trans (HB2.out.mono HBd.out.size)
        go_wp2_with fail
        go_ret
        rw [HZ.out, HE.out]
        exact ⟨rfl, H.out.grown HBX.out, (HBX.out.block y hyl).trans HY.out, World.turned.of_below HBX.out _⟩
      | true =>
        have HMY : Hid (r.may = true) := hmay
        clear hmay
        go_wp2_with fail
        refine ⟨⟨k + 1, by omega, val_int (by omega), ?_, HB2⟩, by simp [intOf]; omega⟩
        show _ = _
        rw [HSN.out, List.all_append, HM.out]
        simp [HMY.out]
    · have hkk : k = n := by omega
      subst hkk
      have hall : (rs.all fun x => x.may) = true := by have h1 := HM.out; rw [HNL.out, List.take_length] at h1; exact h1
      have HEQ : Hid (rs = N'.recs) := HQ2.out hall
      have HMAY : Hid (∀ r ∈ rs, r.may = true) := List.all_eq_true.1 hall
      obtain ⟨L, hL⟩ : ∃ L, L = jrnL rs := ⟨_, rfl⟩
      have HLEQ : Hid (L = jrnL rs) := hL
      have HLL : Hid (L.length ≤ 100000000) := by show _ ≤ _; rw [hL, HEQ.out]; exact HL.out
      have HX : Hid (X = if (D.rewrite k' L).1 = true then (0, D.rewrite k' L, k', N') else (4, D.rewrite k' L, c, S)) := by
        show _ = _
        rw [HW.out, HQ1.out, if_pos hall, hL, HEQ.out]
      have HBX : Hid (Below w.heap.size w wr) := HBd.out.trans (HB.out.mono HBd.out.size)
      have HDR : Hid (RD wr q D kp U M) := HD0.out.grown HB.out
      have hyw : wr.heap[y]? = some (.cells #[.pointer (some ⟨q, 0, none⟩), .int .i64 U, .int .i64 c] 224) := (HBX.out.block y hyl).trans HY.out
      have HYW : Hid (wr.heap[y]? = some (.cells #[.pointer (some ⟨q, 0, none⟩), .int .i64 U, .int .i64 c] 224)) := hyw
      obtain ⟨y0, y1, y2, yf⟩ := wal3_cells hyw
      have hywl : y < wr.heap.size := (Array.getElem?_eq_some_iff.1 hyw).1
      have HA3 : Hid (∀ W, RD W q D kp U M → Calls Try.prog 159 #[.pointer (some ⟨q, 0, none⟩), .int .i64 3, .int .i64 k', .string ⟨#[]⟩] W fun e w' => e = .returned (.bool (D.cut k').1) ∧ ROut2 W w' q kp U M (D.cut k')) := fun W hW => (refAct3 W q D kp U M hW k' HK'.out (by have := HLE.out.e0; have := HMM.out; omega) (by have := HLE.out.e1; have := HMM.out; omega)).mono fun e w' h => ⟨h.1, h.2.1, h.2.2⟩
      have HRS2 : Hid (wr.reads 14 (.slice va k vc) (rs.map Rec.cells)) := by
        have h := HRS.out.keep (w' := wr) fun x hx => HB.out.block x (reads_lt HRS.out hx)
        rw [← HNL.out] at h
        exact h
      have HSM : Hid (∀ W, wr.turned W (fun k => k = q) → W.reads 14 (.slice va k vc) (rs.map Rec.cells)) := fun W hW => HRS2.out.keep fun x hx => hW.block x (reads_lt HRS2.out hx) (HVQ.out x hx)
      clear hall hL hyw HM HQ1 HQ2 HW HRS HD0 HB
      go_wp2_with fail
      refine (HA3.out wr HDR.out).mono ?_
      rintro e w3 ⟨rfl, hd3⟩
      obtain ⟨r3, hr3⟩ : ∃ r3, r3 = D.cut k' := ⟨_, rfl⟩
      have HR3 : Hid (r3 = D.cut k') := hr3
      rw [← hr3] at hd3 ⊢
      have HLE3 : Hid (r3.2.Le m) := by show Dk.Le _ _; rw [hr3]; exact HLE.out.cut k'
      have HD3 : Hid (ROut2 wr w3 q kp U M r3) := hd3
      clear hd3 hr3 HA3
      obtain ⟨b3, D3⟩ := r3
      have HY3 : Hid (w3.heap[y]? = some (.cells #[.pointer (some ⟨q, 0, none⟩), .int .i64 U, .int .i64 c] 224)) := rd_turn HD3.out.2 hywl hyq HYW.out
      have hyl3 : y < w3.heap.size := by have := HD3.out.2.size; omega
      cases b3 with
      | false =>
        have HE : Hid (X = (4, (false, D3), c, S)) := by
          show _ = _
          rw [HX.out, show D.rewrite k' L = (false, D3) by unfold Dk.rewrite; rw [← HR3.out]; rfl]; rfl
        go_wp2_with fail
        go_ret
        rw [HZ.out, HE.out]
        exact ⟨rfl, HD3.out.1, HY3.out, (World.turned.of_below HBX.out _).trans HD3.out.2 fun _ _ h => .inl h⟩
      | true =>
        have HE3 : Hid (D.rewrite k' L = D3.write k' L) := by show _ = _; unfold Dk.rewrite; rw [← HR3.out]; rfl
        have HD3' : Hid (RD w3 q D3 kp U M) := HD3.out.1
        have HT3 : Hid (wr.turned w3 (fun k => k = q)) := HD3.out.2
        obtain ⟨y0, y1, y2, yf⟩ := wal3_cells HY3.out
        have HJ : Hid (∀ W, Below w3.heap.size w3 W → Calls Try.prog 129 #[.slice va k vc] W fun e w' => e = .returned (.string (B L)) ∧ Below w3.heap.size w3 w') := by
          intro W hW
          rw [HNL.out, HLEQ.out]
          refine (refJournal va vc rs W HMAY.out (by have := HNL.out; omega) (by rw [← HLEQ.out]; exact HLL.out) (fun _ => ?_)).mono ?_
          · have h := (HSM.out w3 HT3.out).keep (w' := W) fun x hx => hW.block x (reads_lt (HSM.out w3 HT3.out) hx)
            rw [HNL.out] at h
            exact h
          · rintro e w' ⟨rfl, hb⟩
            exact ⟨rfl, belowVia hb hW⟩
        have HA1 : Hid (∀ W, Below w3.heap.size w3 W → Calls Try.prog 159 #[.pointer (some ⟨q, 0, none⟩), .int .i64 1, .int .i64 k', .string (B L)] W fun e w' => e = .returned (.bool (D3.app k' L).act.1) ∧ ROut2 w3 w' q kp U M (D3.app k' L).act) := by
          intro W hW
          have hd := RD.le12 HLE3.out (by have := HMM.out; omega) k' HLL.out
          refine (refAct1 W q D3 kp U M (HD3'.out.grown hW) k' HK'.out L hd.1 hd.2).mono ?_
          rintro e w' ⟨rfl, h1, h2⟩
          exact ⟨rfl, h1, (World.turned.of_below hW _).trans h2 fun _ _ h => h⟩
        obtain ⟨r4, hr4⟩ : ∃ r4, r4 = (D3.app k' L).act := ⟨_, rfl⟩
        have HR4 : Hid (r4 = (D3.app k' L).act) := hr4
        rw [← hr4] at HA1
        have HLE4 : Hid (r4.2.Le (m + L.length)) := by show Dk.Le _ _; rw [hr4]; exact (HLE3.out.app k' L).act
        obtain ⟨b4, D4⟩ := r4
        clear hr4
        go_wp2_with fail
        go_region_held3 (fun w' => w'.cell? ⟨y, 0, none⟩ = some (.pointer (some ⟨q, 0, none⟩))) (go_keep)
          (first | (
            go_at_call 129
            refine (HJ.out _ (by repeat (first | exact Below.refl _ _ | assumption | with_reducible refine below_drewN ?_ _ | refine Gr.ext ?_ _ | refine Gr.alloc ?_ _ | refine Gr.drew ?_ | (refine Gr.set ?_ (by first | (simp; done) | (simp; omega)) _)))).mono ?_
            rintro e w5 ⟨rfl, hb5⟩
            have k0 := bcellAt hb5 hyl3 y0) | (
            go_at_call 159
            refine (HA1.out _ (by repeat (first | exact Below.refl _ _ | assumption | with_reducible refine below_drewN ?_ _ | refine Gr.ext ?_ _ | refine Gr.alloc ?_ _ | refine Gr.drew ?_ | (refine Gr.set ?_ (by first | (simp; done) | (simp; omega)) _)))).mono ?_
            rintro e w4 ⟨rfl, hd4⟩
            have j0 := tcellAt hd4.2 hyl3 hyq y0))
        have HD4 : Hid (ROut2 w3 w4 q kp U M (b4, D4)) := hd4
        have HT4 : Hid (wr.turned w4 (fun k => k = q)) := HT3.out.trans hd4.2 fun _ _ h => h
        have HY4 : Hid (w4.heap[y]? = some (.cells #[.pointer (some ⟨q, 0, none⟩), .int .i64 U, .int .i64 c] 224)) := rd_turn hd4.2 hyl3 hyq HY3.out
        have hyl4 : y < w4.heap.size := by have := hd4.2.size; omega
        clear hd4 j0 k0 hb5 HJ HA1 y0 y1 y2 yf HY3 HD3
        cases b4 with
        | false =>
          have HE : Hid (X = (4, (false, D4), c, S)) := by
            show _ = _
            rw [HX.out, HE3.out, show D3.write k' L = (false, D4) by unfold Dk.write; rw [← HR4.out]; rfl]; rfl
          go_wp2_with fail
          go_ret
          rw [HZ.out, HE.out]
          exact ⟨rfl, HD4.out.1, HY4.out, (World.turned.of_below HBX.out _).trans HT4.out fun _ _ h => .inl h⟩
        | true =>
          have HE4 : Hid (D3.write k' L = D4.sync k') := by show _ = _; unfold Dk.write; rw [← HR4.out]; rfl
          have HD4' : Hid (RD w4 q D4 kp U M) := HD4.out.1
          obtain ⟨y0, y1, y2, yf⟩ := wal3_cells HY4.out
          have HA2 : Hid (Calls Try.prog 159 #[.pointer (some ⟨q, 0, none⟩), .int .i64 2, .int .i64 k', .string ⟨#[]⟩] w4 fun e w' => e = .returned (.bool (D4.sync k').1) ∧ ROut2 w4 w' q kp U M (D4.sync k')) :=
            (refAct2 w4 q D4 kp U M HD4'.out k' HK'.out (by have := HLE4.out.e0; have := HMM.out; have := HLL.out; omega) (by have := HLE4.out.e1; have := HMM.out; have := HLL.out; omega)).mono fun e w' h => ⟨h.1, h.2.1, h.2.2⟩
          obtain ⟨r5, hr5⟩ : ∃ r5, r5 = D4.sync k' := ⟨_, rfl⟩
          have HR5 : Hid (r5 = D4.sync k') := hr5
          rw [← hr5] at HA2
          obtain ⟨b5, D5⟩ := r5
          clear hr5
          go_wp2_with fail
          refine HA2.out.mono ?_
          rintro e w5 ⟨rfl, hd5⟩
          have HD5 : Hid (ROut2 w4 w5 q kp U M (b5, D5)) := hd5
          have HT5 : Hid (wr.turned w5 (fun k => k = q)) := HT4.out.trans hd5.2 fun _ _ h => h
          have HY5 : Hid (w5.heap[y]? = some (.cells #[.pointer (some ⟨q, 0, none⟩), .int .i64 U, .int .i64 c] 224)) := rd_turn hd5.2 hyl4 hyq HY4.out
          have hyl5 : y < w5.heap.size := by have := hd5.2.size; omega
          clear hd5 HA2 y0 y1 y2 yf HY4 HD4
          obtain ⟨y0, y1, y2, yf⟩ := wal3_cells HY5.out
          cases b5 with
          | false =>
            have HE : Hid (X = (4, (false, D5), c, S)) := by
              show _ = _
              rw [HX.out, HE3.out, HE4.out, ← HR5.out]; rfl
            go_wp2_with fail
            go_ret
            rw [HZ.out, HE.out]
            exact ⟨rfl, HD5.out.1, HY5.out, (World.turned.of_below HBX.out _).trans HT5.out fun _ _ h => .inl h⟩
          | true =>
            have HE : Hid (X = (0, (true, D5), k', N')) := by
              show _ = _
              rw [HX.out, HE3.out, HE4.out, ← HR5.out]; rfl
            go_wp2_with fail
            go_ret
            rw [HZ.out, HE.out]
            refine ⟨rfl, HD5.out.1.keep (Below.heap_setCell _ _ _ _ (fun e => hyq e.symm)), ?_, turned_set (S := fun k => k = q ∨ k = y) ((World.turned.of_below HBX.out _).trans HT5.out fun _ _ h => .inl h) (.inr rfl) _⟩
            refine (cells_set HY5.out _).trans ?_
            simp only [List.setIfInBounds_toArray, List.set_cons_succ, List.set_cons_zero]
set_option maxRecDepth 100000 in
set_option maxHeartbeats 4000000 in
theorem refRewriteOver (w : World) (q y : Nat) (D : Dk) (kp : Int) (U M N c : Nat) (h : RD w q D kp U M) (hy : w.heap[y]? = some (.cells #[.pointer (some ⟨q, 0, none⟩), .int .i64 N, .int .i64 c] 224)) (hU : U ≠ N) (S : WSt) (a : Option Addr) (n cap : Nat) :
    Calls Try.prog 134 #[.pointer (some ⟨y, 0, none⟩), .agg (S.cellsA (.slice a n cap)).toArray] w fun e w' => e = .returned (.int .i64 4) ∧ Below w.heap.size w w' := by
  have hyl : y < w.heap.size := (Array.getElem?_eq_some_iff.1 hy).1
  have HOV : Hid (∀ W, Below w.heap.size w W → Calls Try.prog 158 #[.pointer (some ⟨y, 0, none⟩)] W fun e w' => e = .returned (.bool true) ∧ Below w.heap.size w w') := by
    intro W hW
    have h1 := refOver W q y D kp U M N c (h.grown hW) ((hW.block y hyl).trans hy)
    rw [show (U != N) = true by simp [hU]] at h1
    refine h1.mono ?_
    rintro e w' ⟨rfl, hb⟩
    exact ⟨rfl, belowVia hb hW⟩
  unfold WSt.cellsA
  clear h hy hU
  go_enter Try.func134, Try.ntmps134
  go_wp2_with fail
  refine (HOV.out _ (by repeat (first | exact Below.refl _ _ | assumption | with_reducible refine below_drewN ?_ _ | refine Gr.ext ?_ _ | refine Gr.alloc ?_ _ | refine Gr.drew ?_ | (refine Gr.set ?_ (by first | (simp; done) | (simp; omega)) _)))).mono ?_
  rintro e w1 ⟨rfl, hb1⟩
  go_wp2_with fail
  go_ret
  exact ⟨rfl, hb1⟩
end Go.Proofs.Ytcbbnmodjnnbeaa
