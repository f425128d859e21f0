/- The document's Write. -/
import Derived.Test.YtcbbnmodjnnbeaaJrnG
import Derived.Test.YtcbbnmodjnnbeaaLists2
set_option linter.unusedSimpArgs false
set_option linter.unusedVariables false
namespace Go.Proofs.Ytcbbnmodjnnbeaa
open Go.RowKit

/-- What a journal's call leaves of the document's disk. -/
def ROut2 (w w' : World) (q : Nat) (kp : Int) (U M : Nat) (r : Bool × Dk) : Prop := RD w' q r.2 kp (if r.1 = true then U else 0) M ∧ w.turned w' (fun k => k = q)
theorem RD.le12 {D : Dk} {m : Nat} (h : D.Le m) (hm : m ≤ 200000000) (k : Nat) {l : List UInt8} (hl : l.length ≤ 100000000) : (D.app k l).b0.length ≤ 1000000000000 ∧ (D.app k l).b1.length ≤ 1000000000000 := by
  have := h.app k l
  exact ⟨by have := this.e0; omega, by have := this.e1; omega⟩
theorem ROut2.behind {w w1 w2 : World} {q : Nat} {kp : Int} {U M : Nat} {r : Bool × Dk} (h : ROut2 w1 w2 q kp U M r) (ht : w.turned w1 (fun k => k = q)) : ROut2 w w2 q kp U M r := ⟨h.1, ht.trans h.2 fun _ _ h => h⟩
set_option maxRecDepth 100000 in
set_option maxHeartbeats 8000000 in
theorem refWrite (w : World) (q y : Nat) (D : Dk) (kp : Int) (U M c : Nat) (h : RD w q D kp U M) (hy : w.heap[y]? = some (.cells #[.pointer (some ⟨q, 0, none⟩), .int .i64 U, .int .i64 c] 224)) (hyq : y ≠ q) (hc : c = 0 ∨ c = 1) (S : WSt) (a : Option Addr) (cap : Nat) (rs : List Rec) (hr : rs ≠ [] → w.reads 14 (.slice a rs.length cap) (rs.map Rec.cells)) (hn : rs.length ≤ 1000000000) (hl : (jrnL rs).length ≤ 100000000) (m : Nat) (hle : D.Le m) (hm : m ≤ 100000000) :
    Calls Try.prog 131 #[.pointer (some ⟨y, 0, none⟩), .slice a rs.length cap] w fun e w' => e = .returned (.int .i64 (wWrite D c S rs).1) ∧ ROut2 w w' q kp U M (wWrite D c S rs).2.1 := by
  have H : Hid (RD w q D kp U M) := h
  have HY : Hid (w.heap[y]? = some (.cells #[.pointer (some ⟨q, 0, none⟩), .int .i64 U, .int .i64 c] 224)) := hy
  obtain ⟨z0, z1, z2, zf⟩ := wal3_cells hy
  have hyl : y < w.heap.size := (Array.getElem?_eq_some_iff.1 hy).1
  have HR : Hid (rs ≠ [] → w.reads 14 (.slice a rs.length cap) (rs.map Rec.cells)) := hr
  have HL : Hid ((jrnL rs).length ≤ 100000000) := hl
  have HLE : Hid (D.Le m) := hle
  have HMM : Hid (m ≤ 100000000) := hm
  have HC : Hid (c = 0 ∨ c = 1) := hc
  have HOV := refOver w q y D kp U M U c h hy
  have HOV' : Hid (Calls Try.prog 158 #[.pointer (some ⟨y, 0, none⟩)] w fun e w' => e = .returned (.bool (U != U)) ∧ Below w.heap.size w w') := HOV
  clear h hy hr hl hle hc HOV hm
  go_enter Try.func131, Try.ntmps131
  go_wp2_with fail
  refine HOV'.out.mono ?_
  rintro e w1 ⟨rfl, hb1⟩
  have hUU : (U != U) = false := by simp
  have HB1 : Hid (Below w.heap.size w w1) := hb1
  rw [hUU]
  clear hb1 HOV'
  go_wp2_with fail
  go_loopw [6] (fun iv wr => ∃ k : Nat, k ≤ rs.length ∧ iv = .int .i64 k ∧ Hid ((rs.take k).all (fun x => x.may && !(x.kind == 1)) = true) ∧ Hid (Below w.heap.size w wr)) (fun iv _ => rs.length - (intOf iv).toNat)
  case atStart => exact ⟨0, Nat.zero_le _, rfl, by show _ = _; simp, HB1⟩
  case round =>
    obtain ⟨k, hk, rfl, HM, HB⟩ := hrel
    by_cases hlt : k < rs.length
    · have hne : rs ≠ [] := fun e => by rw [e] at hlt; simp at hlt
      have hrr : wr.reads 14 (.slice a rs.length cap) (rs.map Rec.cells) := (HR.out hne).keep fun k hk => HB.out.block k (reads_lt (HR.out hne) hk)
      obtain ⟨g1, o1, rfl, hg1, hr1⟩ := Rec.at_reads hrr hlt
      have HSN : Hid (rs.take (k + 1) = rs.take k ++ [rs[k]]) := by show _ = _; rw [List.take_succ_eq_append_getElem hlt]
      have HIN : Hid (rs[k] ∈ rs) := List.getElem_mem hlt
      generalize rs[k] = r at hr1 HSN HIN
      obtain ⟨x0, x1, x2, x3, x4, x5, x6, x7, x8, x9, x10, x11, x12, x13⟩ := Rec.off hr1
      clear hr1 hrr hne
      go_wp2_with fail
      refine (refMayRec r _).mono ?_
      rintro e w2 ⟨rfl, hb2⟩
      have HB2 : Hid (Below w.heap.size w w2) := HB.out.trans (hb2.mono HB.out.size)
      obtain ⟨y2, rfl⟩ := Below.ext hb2
      clear hb2
      cases hmay : r.may with
      | false =>
        have HE : Hid (wWrite D c S rs = (2, (true, D), S)) := by
          show _ = _
          unfold wWrite; rw [if_neg]
          rintro ⟨h1, _⟩
          have := List.all_eq_true.1 h1 r HIN.out
          rw [hmay] at this; cases this
        go_wp2_with fail
        go_ret
        rw [HE.out]
        exact ⟨rfl, H.out.grown HB2.out, World.turned.of_below HB2.out _⟩
      | true =>
        have HMY : Hid (r.may = true) := hmay
        clear hmay
        cases hkk : (r.kind == 1) with
        | true =>
          have HE : Hid (wWrite D c S rs = (2, (true, D), S)) := by
            show _ = _
            unfold wWrite; rw [if_neg]
            rintro ⟨_, h1⟩
            have := List.any_eq_false.1 h1 r HIN.out
            exact this hkk
          go_wp2_with fail
          go_ret
          rw [HE.out]
          exact ⟨rfl, H.out.grown HB2.out, World.turned.of_below HB2.out _⟩
        | false =>
          have HKK : Hid ((r.kind == 1) = false) := hkk
          go_wp2_with fail
          refine ⟨⟨k + 1, by omega, val_int (by omega), ?_, HB2⟩, by simp [intOf]; omega⟩
          show _ = _
          rw [HSN.out, List.all_append, HM.out]
          simp [HMY.out, HKK.out]
    · have hkk : k = rs.length := by omega
      subst hkk
      have HALL : Hid ((rs.all fun x => x.may) = true ∧ (rs.any fun x => x.kind == 1) = false) := by
        have h1 := HM.out
        rw [List.take_length, List.all_eq_true] at h1
        refine ⟨List.all_eq_true.2 fun x hx => ?_, List.any_eq_false.2 fun x hx => ?_⟩
        · have := h1 x hx; simp only [Bool.and_eq_true] at this; exact this.1
        · have := h1 x hx; simp only [Bool.and_eq_true, Bool.not_eq_true'] at this; rw [this.2]; decide
      by_cases hnil : rs = []
      · subst hnil
        go_wp2_with fail
        go_ret
        have hw : wWrite D c S [] = (0, (true, D), S) := rfl
        rw [hw]
        exact ⟨rfl, H.out.grown HB.out, World.turned.of_below HB.out _⟩
      · have hlen : rs.length ≠ 0 := fun e => hnil (List.length_eq_zero_iff.1 e)
        have e1 : wWrite D c S rs = if (D.write c (jrnL rs)).1 = true then (0, D.write c (jrnL rs), S.takes rs) else (4, D.write c (jrnL rs), S) := by
          unfold wWrite; rw [if_pos HALL.out, if_neg hnil]
        have HE : Hid (wWrite D c S rs = if (D.write c (jrnL rs)).1 = true then (0, D.write c (jrnL rs), S.takes rs) else (4, D.write c (jrnL rs), S)) := e1
        have hrr : wr.reads 14 (.slice a rs.length cap) (rs.map Rec.cells) := (HR.out hnil).keep fun k hk => HB.out.block k (reads_lt (HR.out hnil) hk)
        have HRR : Hid (wr.reads 14 (.slice a rs.length cap) (rs.map Rec.cells)) := hrr
        have HW : Hid (RD wr q D kp U M) := H.out.grown HB.out
        have hyw : wr.heap[y]? = some (.cells #[.pointer (some ⟨q, 0, none⟩), .int .i64 U, .int .i64 c] 224) := (HB.out.block y hyl).trans HY.out
        obtain ⟨y0, y1, y2, yf⟩ := wal3_cells hyw
        have hywl : y < wr.heap.size := (Array.getElem?_eq_some_iff.1 hyw).1
        have HYW : Hid (wr.heap[y]? = some (.cells #[.pointer (some ⟨q, 0, none⟩), .int .i64 U, .int .i64 c] 224)) := hyw
        have hlen' : ((rs.length : Int) == 0) = false := by rw [beq_eq_false_iff_ne]; omega
        have HHN : Hid (rs.length ≤ 1000000000) := hn
        obtain ⟨n, hnn⟩ : ∃ n, n = rs.length := ⟨_, rfl⟩
        have HJ : Hid (∀ W, Below wr.heap.size wr W → Calls Try.prog 129 #[.slice a n cap] W fun e w' => e = .returned (.string (B (jrnL rs))) ∧ Below wr.heap.size wr w') := by
          intro W hW
          rw [hnn]
          refine (refJournal a cap rs W (List.all_eq_true.1 HALL.out.1) (by have := HHN.out; omega) HL.out (fun _ => HRR.out.keep fun x hx => hW.block x (reads_lt HRR.out hx))).mono ?_
          rintro e w' ⟨rfl, hb⟩
          exact ⟨rfl, belowVia hb hW⟩
        obtain ⟨L, hL⟩ : ∃ L, L = jrnL rs := ⟨_, rfl⟩
        have HLEQ : Hid (L = jrnL rs) := hL
        obtain ⟨b1, hb1⟩ : ∃ b, b = (D.app c L).act.1 := ⟨_, rfl⟩
        have HA : Hid (∀ W, Below wr.heap.size wr W → Calls Try.prog 159 #[.pointer (some ⟨q, 0, none⟩), .int .i64 1, .int .i64 c, .string (B L)] W fun e w' => e = .returned (.bool b1) ∧ RD w' q (D.app c L).act.2 kp (if b1 = true then U else 0) M ∧ wr.turned w' (fun k => k = q)) := by
          intro W hW
          have hd := RD.le12 HLE.out (by have := HMM.out; omega) c HL.out
          rw [hb1, hL]
          refine (refAct1 W q D kp U M (HW.out.grown hW) c HC.out (jrnL rs) hd.1 hd.2).mono ?_
          rintro e w' ⟨rfl, h1, h2⟩
          exact ⟨rfl, h1, (World.turned.of_below hW _).trans h2 fun _ _ h => h⟩
        rw [← hL] at HJ HE
        rw [← hnn] at hlen' hlen ⊢
        have HB1 : Hid (b1 = (D.app c L).act.1) := hb1
        have HNN : Hid (n = rs.length) := hnn
        clear hrr hyw hL e1 hlen hb1 hnn hn
        go_wp2_with fail
        go_region_held3 (fun w' => w'.cell? ⟨y, 0, none⟩ = some (.pointer (some ⟨q, 0, none⟩)) ∧ w'.cell? ⟨y, 2, none⟩ = some (.int .i64 c)) (go_keep)
          (first | (
            go_at_call 129
            refine (HJ.out _ (by repeat (first | exact Below.refl _ _ | assumption | with_reducible refine below_drewN ?_ _ | refine Gr.ext ?_ _ | refine Gr.alloc ?_ _ | refine Gr.drew ?_ | (refine Gr.set ?_ (by first | (simp; done) | (simp; omega)) _)))).mono ?_
            rintro e w1 ⟨rfl, hb1⟩
            have k0 := bcellAt hb1 hywl y0
            have k2 := bcellAt hb1 hywl y2) | (
            go_at_call 159
            refine (HA.out _ (by repeat (first | exact Below.refl _ _ | assumption | with_reducible refine below_drewN ?_ _ | refine Gr.ext ?_ _ | refine Gr.alloc ?_ _ | refine Gr.drew ?_ | (refine Gr.set ?_ (by first | (simp; done) | (simp; omega)) _)))).mono ?_
            rintro e w2 ⟨rfl, hd2, ht2⟩
            have j0 := tcellAt ht2 hywl hyq y0
            have j2 := tcellAt ht2 hywl hyq y2))
        have hy2 := (ht2.block y hywl hyq).trans HYW.out
        have HY2 : Hid (w2.heap[y]? = some (.cells #[.pointer (some ⟨q, 0, none⟩), .int .i64 U, .int .i64 c] 224)) := hy2
        have HD2 : Hid (RD w2 q (D.app c L).act.2 kp (if b1 = true then U else 0) M) := hd2
        have HT2 : Hid (w.turned w2 (fun k => k = q)) := (World.turned.of_below HB.out _).trans ht2 fun _ _ h => h
        have hyl2 : y < w2.heap.size := by have := ht2.size; omega
        obtain ⟨j0, j1, j2, jf⟩ := wal3_cells hy2
        have HLE2 : Hid ((D.app c L).act.2.Le (m + L.length)) := (HLE.out.app c L).act
        have HLL : Hid (L.length ≤ 100000000) := by rw [HLEQ.out]; exact HL.out
        clear hy2 hd2 ht2 k0 k2 hb1 HJ HA HRR HM HR y0 y1 y2 yf
        cases b1 with
        | false =>
          have e2 : D.write c L = (D.app c L).act := by unfold Dk.write; rw [if_neg (by rw [← HB1.out]; decide)]
          go_wp2_with fail
          go_ret
          rw [HE.out, e2, if_neg (by rw [← HB1.out]; decide)]
          refine ⟨rfl, ?_, HT2.out⟩
          show RD w2 q (D.app c L).act.2 kp (if (D.app c L).act.1 = true then U else 0) M
          rw [← HB1.out]; exact HD2.out
        | true =>
          obtain ⟨D2, hD2⟩ : ∃ D2, D2 = (D.app c L).act.2 := ⟨_, rfl⟩
          have HE2 : Hid (D.write c L = D2.sync c) := by show _ = _; unfold Dk.write; rw [if_pos HB1.out.symm, hD2]
          rw [← hD2] at HD2 HLE2
          obtain ⟨b2, hb2⟩ : ∃ b, b = (D2.sync c).1 := ⟨_, rfl⟩
          have HB2 : Hid (b2 = (D2.sync c).1) := hb2
          have HD2' : Hid (RD w2 q D2 kp U M) := by have h := HD2.out; rw [if_pos rfl] at h; exact h
          have HA2 : Hid (∀ W, Below w2.heap.size w2 W → Calls Try.prog 159 #[.pointer (some ⟨q, 0, none⟩), .int .i64 2, .int .i64 c, .string ⟨#[]⟩] W fun e w' => e = .returned (.bool b2) ∧ RD w' q (D2.sync c).2 kp (if b2 = true then U else 0) M ∧ w2.turned w' (fun k => k = q)) := by
            intro W hW
            rw [hb2]
            refine (refAct2 W q D2 kp U M (HD2'.out.grown hW) c HC.out (by have := HLE2.out.e0; have := HMM.out; have := HLL.out; omega) (by have := HLE2.out.e1; have := HMM.out; have := HLL.out; omega)).mono ?_
            rintro e w' ⟨rfl, h1, h2⟩
            exact ⟨rfl, h1, (World.turned.of_below hW _).trans h2 fun _ _ h => h⟩
          clear hD2 hb2 HD2
          go_wp2_with fail
          go_region_held3 (fun w' => w'.cell? ⟨y, 0, none⟩ = some (.pointer (some ⟨q, 0, none⟩)) ∧ w'.cell? ⟨y, 2, none⟩ = some (.int .i64 c)) (go_keep)
            (first | (
              go_at_call 159
              refine (HA2.out _ (by repeat (first | exact Below.refl _ _ | assumption | with_reducible refine below_drewN ?_ _ | refine Gr.ext ?_ _ | refine Gr.alloc ?_ _ | refine Gr.drew ?_ | (refine Gr.set ?_ (by first | (simp; done) | (simp; omega)) _)))).mono ?_
              rintro e w3 ⟨rfl, hd3, ht3⟩
              have i0 := tcellAt ht3 hyl2 hyq j0
              have i2 := tcellAt ht3 hyl2 hyq j2))
          have HD3 : Hid (RD w3 q (D2.sync c).2 kp (if b2 = true then U else 0) M) := hd3
          have HT3 : Hid (w.turned w3 (fun k => k = q)) := HT2.out.trans ht3 fun _ _ h => h
          clear hd3 ht3 i0 i2 j0 j1 j2 jf HA2
          cases b2 with
          | false =>
            go_wp2_with fail
            go_ret
            rw [HE.out, HE2.out, if_neg (by rw [← HB2.out]; decide)]
            refine ⟨rfl, ?_, HT3.out⟩
            show RD w3 q (D2.sync c).2 kp (if (D2.sync c).1 = true then U else 0) M
            rw [← HB2.out]; exact HD3.out
          | true =>
            go_wp2_with fail
            go_ret
            rw [HE.out, HE2.out, if_pos HB2.out.symm]
            refine ⟨rfl, ?_, HT3.out⟩
            show RD w3 q (D2.sync c).2 kp (if (D2.sync c).1 = true then U else 0) M
            rw [← HB2.out]; exact HD3.out
set_option maxRecDepth 100000 in
set_option maxHeartbeats 4000000 in
theorem refWriteOver (w : World) (q y : Nat) (D : Dk) (kp : Int) (U M N c : Nat) (h : RD w q D kp U M) (hy : w.heap[y]? = some (.cells #[.pointer (some ⟨q, 0, none⟩), .int .i64 N, .int .i64 c] 224)) (hU : U ≠ N) (a : Option Addr) (n cap : Nat) :
    Calls Try.prog 131 #[.pointer (some ⟨y, 0, none⟩), .slice a n cap] w fun e w' => e = .returned (.int .i64 4) ∧ Below w.heap.size w w' := by
  have HOV := refOver w q y D kp U M N c h hy
  have hUU : (U != N) = true := by simp [hU]
  rw [hUU] at HOV
  have HOV' : Hid (Calls Try.prog 158 #[.pointer (some ⟨y, 0, none⟩)] w fun e w' => e = .returned (.bool true) ∧ Below w.heap.size w w') := HOV
  clear h hy HOV hU hUU
  go_enter Try.func131, Try.ntmps131
  go_wp2_with fail
  refine HOV'.out.mono ?_
  rintro e w1 ⟨rfl, hb1⟩
  go_wp2_with fail
  go_ret
  exact ⟨rfl, hb1⟩
end Go.Proofs.Ytcbbnmodjnnbeaa
/- The document's Records. -/
set_option linter.unusedSimpArgs false
set_option linter.unusedVariables false
namespace Go.Proofs.Ytcbbnmodjnnbeaa
open Go.RowKit

theorem ety_flat (c : Ety) : c.cells = [.int .i64 c.term, .int .i64 c.cmd.kind, .string c.cmd.key, .string c.cmd.val, .string c.cmd.old, .int .i64 c.cmd.rev, .int .i64 c.cmd.ses, .int .i64 c.cmd.seq] := rfl
theorem recc_one (c : Rec) : ∀ u ∈ c.cells, u.oneCell' = true := by
  intro u hu
  simp only [Rec.cells, Cmd.cells, List.mem_cons, List.mem_append, List.not_mem_nil, or_false, List.cons_append, List.nil_append] at hu
  rcases hu with rfl | rfl | rfl | rfl | rfl | rfl | rfl | rfl | rfl | rfl | rfl | rfl | rfl | rfl <;> rfl
theorem ownR_of {w : World} {base : Nat} {v : Value} {rs : List Rec} {cs : List (List Value)} (h : w.ownL 25 14 v cs) (he : cs = rs.map Rec.cells) (hb : ∀ k, v.ownBlock = some k → base ≤ k) : OwnR w base v rs := by
  subst he
  have h1 := h.1
  rw [List.length_map, ← List.flatMap_def] at h1
  exact ownsRow_base h1 hb
set_option maxRecDepth 100000 in
set_option maxHeartbeats 8000000 in
theorem refRecords (w : World) (S : WSt) (a : Option Addr) (cap : Nat) (hr : S.log ≠ [] → w.reads 8 (.slice a S.log.length cap) (S.log.map Ety.cells)) (hn : S.log.length ≤ 100000000) :
    Calls Try.prog 161 #[.agg (S.cellsA (.slice a S.log.length cap)).toArray] w fun e w' => ∃ v l, e = .returned v ∧ OwnR w' w.heap.size v (S.baseR :: S.hardR :: l) ∧ l.length = S.log.length ∧ (0 ≤ S.base → S.base ≤ 1000000 → l = itemsR S.base S.log) ∧ Below w.heap.size w w' := by
  unfold WSt.cellsA
  have HR : Hid (S.log ≠ [] → w.reads 8 (.slice a S.log.length cap) (S.log.map Ety.cells)) := hr
  have HBR : Hid (S.baseR = ⟨1, S.gen, S.base, S.bterm, 0, (S.log.length : Int) + 1, Cmd.zero, S.data⟩) := by show _ = _; unfold WSt.baseR; rw [Int.add_comm]
  have HHR : Hid (S.hardR = ⟨2, 0, 0, S.term, S.vote, 0, Cmd.zero, ⟨#[]⟩⟩) := rfl
  obtain ⟨rb, hrb⟩ : ∃ r, r = S.baseR := ⟨_, rfl⟩
  obtain ⟨rh, hrh⟩ : ∃ r, r = S.hardR := ⟨_, rfl⟩
  rw [← hrb] at HBR ⊢
  rw [← hrh] at HHR ⊢
  clear hr hrb hrh
  go_enter Try.func161, Try.ntmps161
  go_wp2_with (at_builtin; refine Held.out ?_)
  unfold Held
  have h1 : OwnR ((w.alloc (.cells #[.int .i64 S.gen, .int .i64 S.term, .int .i64 S.vote, .int .i64 S.base, .int .i64 S.bterm, .string S.data, .slice a S.log.length cap] 90)).alloc (.cells #[.int .i64 1, .int .i64 S.gen, .int .i64 S.base, .int .i64 S.bterm, .int .i64 0, .int .i64 ((S.log.length : Int) + 1), .int .i64 0, .string ⟨#[]⟩, .string ⟨#[]⟩, .string ⟨#[]⟩, .int .i64 0, .int .i64 0, .int .i64 0, .string S.data] 25)) (w.heap.size + 1) (.slice (some ⟨w.heap.size + 1, 0, none⟩) 1 1) [⟨1, S.gen, S.base, S.bterm, 0, (S.log.length : Int) + 1, Cmd.zero, S.data⟩] := by
    have h := OwnR.one (w := w.alloc (.cells #[.int .i64 S.gen, .int .i64 S.term, .int .i64 S.vote, .int .i64 S.base, .int .i64 S.bterm, .string S.data, .slice a S.log.length cap] 90)) (w.heap.size + 1) (by simp) ⟨1, S.gen, S.base, S.bterm, 0, (S.log.length : Int) + 1, Cmd.zero, S.data⟩
    rw [World.size_alloc] at h
    exact h
  have HX1 : Hid (∀ (o1 o2 : Obj), (((w.alloc (.cells #[.int .i64 S.gen, .int .i64 S.term, .int .i64 S.vote, .int .i64 S.base, .int .i64 S.bterm, .string S.data, .slice a S.log.length cap] 90)).alloc o1).alloc o2).heap[w.heap.size]? = some (.cells #[.int .i64 S.gen, .int .i64 S.term, .int .i64 S.vote, .int .i64 S.base, .int .i64 S.bterm, .string S.data, .slice a S.log.length cap] 90)) := fun o1 o2 => Hp.alloc (Hp.alloc (heap_alloc_new w _) _) _
  refine wpR_new rfl _ _ rfl (w.heap.size + 1) (.slice (some ⟨w.heap.size + 1, 0, none⟩) 1 1) [⟨1, S.gen, S.base, S.bterm, 0, (S.log.length : Int) + 1, Cmd.zero, S.data⟩] rfl (h1.alloc _) ⟨2, 0, 0, S.term, S.vote, 0, Cmd.zero, ⟨#[]⟩⟩ _ rfl (new_cells' (by simp [go_sem]) rfl) (by simp) (by simp) ?_
  intro v1 w1 ho1 hg1
  have hv1 : ∀ k, (Value.slice (some ⟨w.heap.size + 1, 0, none⟩) 1 1).ownBlock = some k → w.heap.size + 1 ≤ k := fun k hk => by cases hk; exact Nat.le_refl _
  have hb1 : Below w.heap.size w w1 := Below.grown ((by repeat (first | exact Below.refl _ _ | assumption | with_reducible refine below_drewN ?_ _ | refine Gr.ext ?_ _ | refine Gr.alloc ?_ _ | refine Gr.drew ?_ | (refine Gr.set ?_ (by first | (simp; done) | (simp; omega)) _)))) hg1.g (by simp; omega) (fun k hk => by have := hv1 k hk; omega)
  have hx1 : w1.heap[w.heap.size]? = some (.cells #[.int .i64 S.gen, .int .i64 S.term, .int .i64 S.vote, .int .i64 S.base, .int .i64 S.bterm, .string S.data, .slice a S.log.length cap] 90) := (hg1.keep (by simp; omega) (fun e => by have := hv1 _ e; omega)).trans (HX1.out _ _)
  have ho1' : OwnR w1 (w.heap.size + 1) v1 [rb, rh] := by rw [HBR.out, HHR.out]; exact ho1
  clear h1 HX1 hg1 hv1 ho1
  go_wp2_with fail
  go_loopw [3, 4] (fun v iv wr => ∃ (k : Nat) (l : List Rec), k ≤ S.log.length ∧ iv = .int .i64 k ∧ OwnR wr (w.heap.size + 1) v (rb :: rh :: l) ∧ l.length = k ∧ Hid (0 ≤ S.base → S.base ≤ 1000000 → l = itemsR S.base (S.log.take k)) ∧ wr.heap[w.heap.size]? = some (.cells #[.int .i64 S.gen, .int .i64 S.term, .int .i64 S.vote, .int .i64 S.base, .int .i64 S.bterm, .string S.data, .slice a S.log.length cap] 90) ∧ Below w.heap.size w wr) (fun _ iv _ => S.log.length - (intOf iv).toNat)
  case atStart => exact ⟨0, [], Nat.zero_le _, rfl, ho1', rfl, fun _ _ => rfl, hx1, hb1⟩
  case round =>
    clear ho1' hx1 hb1
    obtain ⟨k, l, hk, rfl, ho, hl, HI, hbx, hb⟩ := hrel
    have hbs := hb.size
    have hbz : w.heap.size < wr.heap.size := (Array.getElem?_eq_some_iff.1 hbx).1
    have b3 : wr.cell? ⟨w.heap.size, 3, none⟩ = some (.int .i64 S.base) := by simp only [World.cell?, hbx]; rfl
    have b6 : wr.cell? ⟨w.heap.size, 6, none⟩ = some (.slice a S.log.length cap) := by simp only [World.cell?, hbx]; rfl
    by_cases hlt : k < S.log.length
    · have hne : S.log ≠ [] := fun e => by rw [e] at hlt; simp at hlt
      have hrr : wr.reads 8 (.slice a S.log.length cap) (S.log.map Ety.cells) := (HR.out hne).keep fun k hk => hb.block k (reads_lt (HR.out hne) hk)
      obtain ⟨g1, o1, rfl, hg1, hr1⟩ := Ety.at_reads hrr hlt
      have HSN' : Hid (itemsR S.base (S.log.take (k + 1)) = itemsR S.base (S.log.take k) ++ [itemR (S.base + 1 + k) S.log[k]]) := itemsR_take S.base S.log k hlt
      generalize S.log[k] = c at hr1 HSN'
      obtain ⟨x0, x1, x2, x3, x4, x5, x6, x7⟩ := Ety.off hr1
      have HL : Hid (l.length = k) := hl
      have hn1 : (rb :: rh :: l).length ≤ 100000000000 := by simp only [List.length_cons]; omega
      obtain ⟨ix, hix⟩ : ∃ ix, IntKind.i64.wrap (IntKind.i64.wrap (S.base + 1) + (k : Int)) = ix := ⟨_, rfl⟩
      obtain ⟨ia, hia⟩ : ∃ ia, IntKind.i64.wrap (S.base + 1) = ia := ⟨_, rfl⟩
      rw [hia] at hix
      have HIX : Hid (0 ≤ S.base → S.base ≤ 1000000 → ix = S.base + 1 + k) := fun h0 h1 => by rw [← hix, ← hia, wrap_id (S.base + 1) (by omega) (by omega), wrap_id _ (by omega) (by omega)]
      have HO : Hid (OwnR wr (w.heap.size + 1) u3 (rb :: rh :: l)) := ho
      have HB : Hid (Below w.heap.size w wr) := hb
      have HBX : Hid (wr.heap[w.heap.size]? = some (.cells #[.int .i64 S.gen, .int .i64 S.term, .int .i64 S.vote, .int .i64 S.base, .int .i64 S.bterm, .string S.data, .slice (some ⟨g1, o1, none⟩) S.log.length cap] 90)) := hbx
      have hv3 : ∀ k, u3.ownBlock = some k → w.heap.size + 1 ≤ k := fun k hk => (ho.lt hk).1
      have HV3 : Hid (∀ k, u3.ownBlock = some k → w.heap.size + 1 ≤ k) := hv3
      have hgw : g1 < w.heap.size := reads_lt (HR.out hne) (k := g1) rfl
      have HC : Hid (∀ (o : Obj) v' w6, Grew (wr.alloc o).drew w6 u3 v' → w6.cell? ⟨w.heap.size, 3, none⟩ = some (.int .i64 S.base) ∧ w6.cell? ⟨w.heap.size, 6, none⟩ = some (.slice (some ⟨g1, o1, none⟩) S.log.length cap) ∧ w6.cell? ⟨g1, o1 + k * 8, none⟩ = some (.int .i64 c.term) ∧ w6.cell? ⟨g1, o1 + k * 8 + 1, none⟩ = some (.int .i64 c.cmd.kind) ∧ w6.cell? ⟨g1, o1 + k * 8 + 2, none⟩ = some (.string c.cmd.key) ∧ w6.cell? ⟨g1, o1 + k * 8 + 3, none⟩ = some (.string c.cmd.val) ∧ w6.cell? ⟨g1, o1 + k * 8 + 4, none⟩ = some (.string c.cmd.old) ∧ w6.cell? ⟨g1, o1 + k * 8 + 5, none⟩ = some (.int .i64 c.cmd.rev) ∧ w6.cell? ⟨g1, o1 + k * 8 + 6, none⟩ = some (.int .i64 c.cmd.ses) ∧ w6.cell? ⟨g1, o1 + k * 8 + 7, none⟩ = some (.int .i64 c.cmd.seq)) := by
        intro o v' w6 hg6
        have e1 : ∀ z off v, z < wr.heap.size → u3.ownBlock ≠ some z → wr.cell? ⟨z, off, none⟩ = some v → w6.cell? ⟨z, off, none⟩ = some v := fun z off v hz hn hc => (World.cell?_of_block (a := ⟨z, off, none⟩) ((hg6.keep (by show z < (wr.alloc o).heap.size; simp; omega) hn).trans (Below.heap_alloc _ _ _ hz))).trans hc
        have e2 : u3.ownBlock ≠ some w.heap.size := fun e => by have := hv3 _ e; omega
        have e3 : u3.ownBlock ≠ some g1 := fun e => by have := hv3 _ e; omega
        exact ⟨e1 _ _ _ hbz e2 b3, e1 _ _ _ hbz e2 b6, e1 _ _ _ hg1 e3 x0, e1 _ _ _ hg1 e3 x1, e1 _ _ _ hg1 e3 x2, e1 _ _ _ hg1 e3 x3, e1 _ _ _ hg1 e3 x4, e1 _ _ _ hg1 e3 x5, e1 _ _ _ hg1 e3 x6, e1 _ _ _ hg1 e3 x7⟩
      have hlen9 : ((rb :: rh :: l).map Rec.cells).length = l.length + 2 := by simp
      have hl1 : l.length + 2 + 1 ≤ maxLen := by unfold maxLen; omega
      have hl2 : (l.length + 2 + 1) * 144 ≤ 140737488355328 := by omega
      have hone : ∀ u ∈ (#[.int .i64 3, .int .i64 0, .int .i64 ix, .int .i64 c.term, .int .i64 0, .int .i64 0, .int .i64 c.cmd.kind, .string c.cmd.key, .string c.cmd.val, .string c.cmd.old, .int .i64 c.cmd.rev, .int .i64 c.cmd.ses, .int .i64 c.cmd.seq, .string ⟨#[]⟩] : Array Value).toList, u.oneCell' = true := fun u hu => recc_one ⟨3, 0, ix, c.term, 0, 0, c.cmd, ⟨#[]⟩⟩ u hu
      have hown4 : wr.ownL 25 14 u3 ((rb :: rh :: l).map Rec.cells) := ho.L
      have hki : (0 : Int) ≤ (k : Int) := by omega
      have hkn : (k : Int) ≤ S.log.length := by omega
      have hlt1 : (k : Int) < S.log.length := by omega
      clear hr1 hrr hbx hl ho hb hv3
      go_wp2_with fail
      go_region_held3 (fun w' => w'.cell? ⟨w.heap.size, 3, none⟩ = some (.int .i64 S.base) ∧ w'.cell? ⟨w.heap.size, 6, none⟩ = some (.slice (some ⟨g1, o1, none⟩) S.log.length cap) ∧ w'.cell? ⟨g1, o1 + k * 8, none⟩ = some (.int .i64 c.term) ∧ w'.cell? ⟨g1, o1 + k * 8 + 1, none⟩ = some (.int .i64 c.cmd.kind) ∧ w'.cell? ⟨g1, o1 + k * 8 + 2, none⟩ = some (.string c.cmd.key) ∧ w'.cell? ⟨g1, o1 + k * 8 + 3, none⟩ = some (.string c.cmd.val) ∧ w'.cell? ⟨g1, o1 + k * 8 + 4, none⟩ = some (.string c.cmd.old) ∧ w'.cell? ⟨g1, o1 + k * 8 + 5, none⟩ = some (.int .i64 c.cmd.rev) ∧ w'.cell? ⟨g1, o1 + k * 8 + 6, none⟩ = some (.int .i64 c.cmd.ses) ∧ w'.cell? ⟨g1, o1 + k * 8 + 7, none⟩ = some (.int .i64 c.cmd.seq)) (go_keep) ((refine step_appendL rfl _ _ 33 rfl 25 14 144 _ Try.underlying33 infoR rfl (by decide) u3 _ (l.length + 2) hlen9 rfl ?_ #[.int .i64 3, .int .i64 0, .int .i64 ix, .int .i64 c.term, .int .i64 0, .int .i64 0, .int .i64 c.cmd.kind, .string c.cmd.key, .string c.cmd.val, .string c.cmd.old, .int .i64 c.cmd.rev, .int .i64 c.cmd.ses, .int .i64 c.cmd.seq, .string ⟨#[]⟩] _ rfl ?_ rfl hone hl1 hl2 ?_; exact (hown4.alloc _).drew; exact heap_alloc_new wr _; intro a1 cap1 w6 ho6 hg6 hB6; obtain ⟨s0, s1, s2, s3, s4, s5, s6, s7, s8, s9⟩ := HC.out _ _ w6 hg6))
      have hsz : (wr.alloc (.cells #[.int .i64 3, .int .i64 0, .int .i64 ix, .int .i64 c.term, .int .i64 0, .int .i64 0, .int .i64 c.cmd.kind, .string c.cmd.key, .string c.cmd.val, .string c.cmd.old, .int .i64 c.cmd.rev, .int .i64 c.cmd.ses, .int .i64 c.cmd.seq, .string ⟨#[]⟩] 25)).drew.heap.size = wr.heap.size + 1 := by show (wr.alloc _).heap.size = _; simp
      have hnew : ∀ z, (Value.slice a1 (l.length + 2 + 1) cap1).ownBlock = some z → w.heap.size + 1 ≤ z := fun z hz => by
        rcases hg6.own with e | e
        · exact HV3.out z (by rw [← e]; exact hz)
        · have := e z hz; rw [hsz] at this; omega
      have HO6 : Hid (OwnR w6 (w.heap.size + 1) (.slice a1 (l.length + 2 + 1) cap1) (rb :: rh :: (l ++ [⟨3, 0, ix, c.term, 0, 0, c.cmd, ⟨#[]⟩⟩]))) := ownR_of ho6 (by simp only [List.map_cons, List.map_append, List.map_nil]; rfl) hnew
      have HB6 : Hid (Below w.heap.size w w6) := Below.grown ((by repeat (first | exact Below.refl _ _ | assumption | with_reducible refine below_drewN ?_ _ | refine Gr.ext ?_ _ | refine Gr.alloc ?_ _ | refine Gr.drew ?_ | (refine Gr.set ?_ (by first | (simp; done) | (simp; omega)) _)))) hg6.g (by rw [hsz]; omega) (fun z hz => by have := HV3.out z hz; omega)
      have HX6 : Hid (w6.heap[w.heap.size]? = some (.cells #[.int .i64 S.gen, .int .i64 S.term, .int .i64 S.vote, .int .i64 S.base, .int .i64 S.bterm, .string S.data, .slice (some ⟨g1, o1, none⟩) S.log.length cap] 90)) := (hg6.keep (by rw [hsz]; omega) (fun e => by have := HV3.out _ e; omega)).trans ((Below.heap_alloc _ _ _ hbz).trans HBX.out)
      have HI6 : Hid (0 ≤ S.base → S.base ≤ 1000000 → l ++ [⟨3, 0, ix, c.term, 0, 0, c.cmd, ⟨#[]⟩⟩] = itemsR S.base (S.log.take (k + 1))) := by
        intro h0 h1
        rw [HSN'.out, HI.out h0 h1, HIX.out h0 h1]; rfl
      clear s0 s1 s2 s3 s4 s5 s6 s7 s8 s9 ho6 hg6 hB6 hnew hsz HC hown4 hone
      go_wp2_with fail
      exact ⟨⟨k + 1, _, by omega, val_int (by omega), HO6.out, by simp [HL.out], HI6, HX6.out, HB6.out⟩, by simp [intOf]; omega⟩
    · have hkk : k = S.log.length := by omega
      subst hkk
      have HL : Hid (l.length = S.log.length) := hl
      clear hl
      go_wp2_with fail
      go_ret
      have h := HI.out
      rw [List.take_length] at h
      exact ⟨_, l, rfl, ownsRow_base ho fun k hk => by have := (ho.lt hk).1; omega, HL.out, h, hb⟩
end Go.Proofs.Ytcbbnmodjnnbeaa
