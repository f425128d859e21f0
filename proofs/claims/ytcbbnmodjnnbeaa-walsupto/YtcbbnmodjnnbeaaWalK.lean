/- Which file counts: the program. -/
import Derived.Test.YtcbbnmodjnnbeaaWalI
import Derived.Test.YtcbbnmodjnnbeaaScans
set_option linter.unusedSimpArgs false
set_option linter.unusedVariables false
namespace Go.Proofs.Ytcbbnmodjnnbeaa
open Go.RowKit

def beginR : Rec := ⟨1, 1, 0, 0, 0, 0, Cmd.zero, ByteArray.empty⟩
theorem beginR_may : beginR.may = true := by decide
theorem jrn_begin : (jrnL [beginR]).length ≤ 100 := by decide
theorem DiskAt.grown {w w' : World} {p : Nat} {v0 v1 : Value} {J : Option Nat} {kp : Int} {D : Dk} (h : DiskAt w p v0 v1 J kp D) (hb : Below w.heap.size w w') : DiskAt w' p v0 v1 J kp D :=
  ⟨(hb.block p h.lt).trans h.blk, h.kq, h.kb, h.db, h.o0.keep fun k hk => hb.block k (h.o0.lt hk).2, h.o1.keep fun k hk => hb.block k (h.o1.lt hk).2, h.n0, h.n1, h.dis, h.fit, fun j hj => by
    obtain ⟨a, b, c, cs, d, e⟩ := h.jb j hj
    exact ⟨a, b, c, cs, d, (hb.block j (Array.getElem?_eq_some_iff.1 e).1).trans e⟩⟩
theorem OwnR.one {w : World} (base : Nat) (hb : base ≤ w.heap.size) (r : Rec) : OwnR (w.alloc (.cells ([r].flatMap Rec.cells).toArray 25)) base (.slice (some ⟨w.heap.size, 0, none⟩) 1 1) [r] :=
  ⟨rfl, .inr ⟨w.heap.size, 1, _, rfl, hb, heap_alloc_new w _, Nat.le_refl _, by unfold maxLen; decide, rfl, by rfl⟩⟩
set_option maxRecDepth 100000 in
set_option maxHeartbeats 4000000 in
theorem walBegin (w : World) (p : Nat) (v0 v1 : Value) (J : Option Nat) (kp : Int) (D : Dk) (h : DiskAt w p v0 v1 J kp D) (hJ : J = none) :
    Calls Try.prog 139 #[.pointer (some ⟨p, 0, none⟩)] w fun e w' => ∃ v u0, e = .returned v ∧ OwnR w' w.heap.size v [beginR] ∧ DiskAt w' p u0 v1 J kp (D.set 0 (jrnL [beginR])) ∧ (∀ k, u0.ownBlock = some k → w.heap.size ≤ k ∧ v.ownBlock ≠ some k) ∧ w.turned w' (fun k => k = p) := by
  subst hJ
  have H : Hid (DiskAt w p v0 v1 none kp D) := h
  clear h
  go_enter Try.func139, Try.ntmps139
  go_wp2_with fail
  have hown : OwnR (w.alloc (.cells #[.int .i64 1, .int .i64 1, .int .i64 0, .int .i64 0, .int .i64 0, .int .i64 0, .int .i64 0, .string ⟨#[]⟩, .string ⟨#[]⟩, .string ⟨#[]⟩, .int .i64 0, .int .i64 0, .int .i64 0, .string ⟨#[]⟩] 25)) w.heap.size (.slice (some ⟨w.heap.size, 0, none⟩) 1 1) [beginR] := OwnR.one (w := w) w.heap.size (Nat.le_refl _) beginR
  have hrd := hown.L.reads
  refine (walBytes (some ⟨w.heap.size, 0, none⟩) 1 [beginR] _ (by decide) (by have := jrn_begin; omega) (fun _ => hrd)).mono ?_
  rintro e w1 ⟨bv, er, rfl, hb1, hcase⟩
  rcases hcase with ⟨-, rfl, hob⟩ | ⟨⟨r, hr, hm⟩, -⟩
  case inr => rw [List.mem_singleton.1 hr, beginR_may] at hm; cases hm
  have hbB : Below w.heap.size w w1 := belowVia hb1 (by repeat (first | exact Below.refl _ _ | assumption | with_reducible refine below_drewN ?_ _ | refine Gr.ext ?_ _ | refine Gr.alloc ?_ _ | refine Gr.drew ?_ | (refine Gr.set ?_ (by first | (simp; done) | (simp; omega)) _)))
  have HD1 := H.out.grown hbB
  obtain ⟨ba, bn, bc, rfl⟩ := hob.shape3
  have hbn : (bn : Nat) = (jrnL [beginR]).length := (hob.upto (m := 0) (Nat.zero_le _)).1
  have HO : Hid (OwnR w1 w.heap.size (.slice (some ⟨w.heap.size, 0, none⟩) 1 1) [beginR]) := hown.keep fun k hk => hb1.block k (hown.lt hk).2
  have HBO : Hid (OwnB w1 (w.heap.size + 1) (.slice ba bn bc) (jrnL [beginR])) := by have := hob; rw [World.size_alloc] at this; exact this
  have HBB : Hid (Below w.heap.size w w1) := hbB
  have HD : Hid (DiskAt w1 p v0 v1 none kp D) := HD1
  have HBN : Hid (bn = (jrnL [beginR]).length) := hbn
  obtain ⟨q0, q1, q2, q3, q4, q5, q6, qf⟩ := disk_cells HD1.blk
  clear hown hrd hb1 hob hbB HD1 hbn
  go_wp2_with fail
  go_ret
  have hp := H.out.lt
  have hnb : ∀ k, (Value.slice ba bn bc).ownBlock = some k → w.heap.size + 1 ≤ k ∧ k < w1.heap.size := fun k hk => HBO.out.lt hk
  have hnp : (Value.slice ba bn bc).ownBlock ≠ some p := fun e => by have := (hnb p e).1; omega
  refine ⟨_, _, rfl, HO.out.keep fun k hk => ?_, ⟨?_, HD.out.kq, HD.out.kb, HD.out.db, ?_, ?_, hnp, HD.out.n1, fun k hk => ?_, ⟨Nat.le_refl _, HD.out.fit.f1⟩, fun j hj => by cases hj⟩, fun k hk => ⟨by have := (hnb k hk).1; omega, fun e => ?_⟩, ?_⟩
  · have : k = w.heap.size := by cases hk; rfl
    have hne : k ≠ p := by omega
    simp only [setCell_heapB, if_neg hne]
  · rw [cells_set (cells_set HD.out.blk _) _, HBN.out]; rfl
  · exact OwnB.keep (show OwnB w1 0 _ _ from ownsRow_base HBO.out fun k hk => Nat.zero_le _) fun k hk => by
      have hne : k ≠ p := fun e => hnp (e ▸ hk)
      simp only [setCell_heapB, if_neg hne]
  · exact HD.out.o1.keep fun k hk => by
      have hne : k ≠ p := fun e => HD.out.n1 (e ▸ hk)
      simp only [setCell_heapB, if_neg hne]
  · intro h1
    have := (hnb k hk).1
    have := (H.out.o1.lt h1).2
    omega
  · have : k = w.heap.size := by cases e; rfl
    have := (hnb k hk).1
    omega
  · exact turned_set (S := fun k => k = p) (turned_set (S := fun k => k = p) (World.turned.of_below HBB.out _) rfl _) rfl _
/-- What Open finds. -/
def Dk.found (D : Dk) : Nat × List Rec :=
  if countsB (scanA D.b0).1 = true then
    (if countsB (scanA D.b1).1 = true ∧ ((scanA D.b0).1.headD Rec.zero).gen < ((scanA D.b1).1.headD Rec.zero).gen then (1, (scanA D.b1).1) else (0, (scanA D.b0).1))
  else if countsB (scanA D.b1).1 = true then (1, (scanA D.b1).1)
  else (0, [beginR])
def Dk.opened (D : Dk) : Dk := D.set D.found.1 (jrnL D.found.2)
theorem scan_len (l : List UInt8) : (scanA l).2.length ≤ l.length ∧ ((l.length : Int) - (scanA l).2.length).toNat = (jrnL (scanA l).1).length ∧ l.take (jrnL (scanA l).1).length = jrnL (scanA l).1 := by
  obtain ⟨h1, _⟩ := scanA_back l
  have h2 := congrArg List.length h1
  rw [List.length_append] at h2
  refine ⟨by omega, by omega, ?_⟩
  generalize scanA l = x at *
  subst h1
  exact List.take_left
theorem OwnR.cap {w : World} {base : Nat} {v : Value} {rs : List Rec} (h : OwnR w base v rs) : ∃ a cap, v = .slice a rs.length cap ∧ rs.length ≤ cap ∧ cap ≤ maxLen ∧ (rs ≠ [] → ∃ g, a = some ⟨g, 0, none⟩) := by
  rcases h.2 with ⟨h1, h2⟩ | ⟨g, c, cur, hv, h1, h2, h3, h4, h5, h6⟩
  · exact ⟨none, 0, by rw [h1, h2], by rw [h2]; exact Nat.le_refl _, Nat.zero_le _, fun hne => absurd (List.eq_nil_of_length_eq_zero h2) hne⟩
  · exact ⟨_, c, hv, h3, h4, fun _ => ⟨g, rfl⟩⟩
theorem head_gen {w : World} {base g n c : Nat} {rs : List Rec} (h : OwnR w base (.slice (some ⟨g, 0, none⟩) n c) rs) (hne : rs ≠ []) : w.cell? ⟨g, 1, none⟩ = some (.int .i64 (rs.headD Rec.zero).gen) := by
  cases rs with
  | nil => exact absurd rfl hne
  | cons r rs =>
    have hr := h.L.reads
    obtain ⟨g', o', he, _, hc⟩ := Rec.at_reads (rs := r :: rs) hr (k := 0) (by simp)
    injection he with he
    injection he with h1 h2
    subst h1 h2
    have := (Rec.off hc).2.1
    simpa using this
/-- The file k, shortened to what its Scan takes. -/
theorem DiskAt.short0 {w w1 : World} {p : Nat} {a0 : Option Addr} {n0 c0 : Nat} {v1 : Value} {J : Option Nat} {kp : Int} {D : Dk} (h : DiskAt w p (.slice a0 n0 c0) v1 J kp D) (hc : D.l0 = D.b0.length) (m : Nat) (hm : m ≤ D.b0.length) (hb : w1.heap[p]? = some (.cells #[.slice a0 m c0, .int .i64 m, v1, .int .i64 D.l1, .int .i64 D.due, .int .i64 kp, jptr J] 177)) (ht : w.turned w1 (fun k => k = p)) : DiskAt w1 p (.slice a0 m c0) v1 J kp (D.set 0 (D.b0.take m)) := by
  have hl : (D.b0.take m).length = m := by rw [List.length_take]; omega
  have e0 := (h.o0.upto (m := 0) (Nat.zero_le _)).1
  have b0 : (Value.slice a0 m c0).ownBlock = (Value.slice a0 n0 c0).ownBlock := by cases a0 <;> rfl
  have o0 := (h.o0.upto (m := m) (by omega)).2
  refine ⟨by rw [hb]; show _ = some (Obj.cells #[_, .int .i64 ((D.b0.take m).length : Nat), _, _, _, _, _] _); rw [hl]; rfl, h.kq, h.kb, h.db, o0.keep fun k hk => ht.block k (o0.lt hk).2 (fun e => h.n0 (b0 ▸ e ▸ hk)), h.o1.keep fun k hk => ht.block k (h.o1.lt hk).2 (fun e => h.n1 (e ▸ hk)), by rw [b0]; exact h.n0, h.n1, by rw [b0]; exact h.dis, ⟨Nat.le_refl _, h.fit.f1⟩, fun j hj => ?_⟩
  obtain ⟨a, b, c, cs, d, e⟩ := h.jb j hj
  exact ⟨a, by rw [b0]; exact b, c, cs, d, (ht.block j (Array.getElem?_eq_some_iff.1 e).1 a).trans e⟩
theorem DiskAt.short1 {w w1 : World} {p : Nat} {a1 : Option Addr} {n1 c1 : Nat} {v0 : Value} {J : Option Nat} {kp : Int} {D : Dk} (h : DiskAt w p v0 (.slice a1 n1 c1) J kp D) (hc : D.l1 = D.b1.length) (m : Nat) (hm : m ≤ D.b1.length) (hb : w1.heap[p]? = some (.cells #[v0, .int .i64 D.l0, .slice a1 m c1, .int .i64 m, .int .i64 D.due, .int .i64 kp, jptr J] 177)) (ht : w.turned w1 (fun k => k = p)) : DiskAt w1 p v0 (.slice a1 m c1) J kp (D.set 1 (D.b1.take m)) := by
  have hl : (D.b1.take m).length = m := by rw [List.length_take]; omega
  have e1 := (h.o1.upto (m := 0) (Nat.zero_le _)).1
  have b1 : (Value.slice a1 m c1).ownBlock = (Value.slice a1 n1 c1).ownBlock := by cases a1 <;> rfl
  have o1 := (h.o1.upto (m := m) (by omega)).2
  refine ⟨by rw [hb]; show _ = some (Obj.cells #[_, _, _, .int .i64 ((D.b1.take m).length : Nat), _, _, _] _); rw [hl]; rfl, h.kq, h.kb, h.db, h.o0.keep fun k hk => ht.block k (h.o0.lt hk).2 (fun e => h.n0 (e ▸ hk)), o1.keep fun k hk => ht.block k (o1.lt hk).2 (fun e => h.n1 (b1 ▸ e ▸ hk)), h.n0, by rw [b1]; exact h.n1, by rw [b1]; exact h.dis, ⟨h.fit.f0, Nat.le_refl _⟩, fun j hj => ?_⟩
  obtain ⟨a, b, c, cs, d, e⟩ := h.jb j hj
  exact ⟨a, b, by rw [b1]; exact c, cs, d, (ht.block j (Array.getElem?_eq_some_iff.1 e).1 a).trans e⟩
set_option maxRecDepth 100000 in
set_option maxHeartbeats 8000000 in
theorem walCounting (w : World) (p : Nat) (v0 v1 : Value) (kp : Int) (D : Dk) (h : DiskAt w p v0 v1 none kp D) (hcm : D.Calm) (hs0 : D.b0.length ≤ 100000000) (hs1 : D.b1.length ≤ 100000000) :
    Calls Try.prog 91 #[.pointer (some ⟨p, 0, none⟩)] w fun e w' => ∃ v u0 u1, e = .returned (.tuple #[.int .i64 D.found.1, v]) ∧ OwnR w' w.heap.size v D.found.2 ∧ DiskAt w' p u0 u1 none kp D.opened ∧ (∀ x, footD p u0 u1 x → (footD p v0 v1 x ∨ w.heap.size ≤ x) ∧ v.ownBlock ≠ some x) ∧ w.turned w' (fun k => k = p) := by
  have H : Hid (DiskAt w p v0 v1 none kp D) := h
  have HC : Hid D.Calm := hcm
  obtain ⟨a0, c0, rfl, hc0, hm0, ha0⟩ := h.o0.shape
  obtain ⟨a1, c1, rfl, hc1, hm1, ha1⟩ := h.o1.shape
  obtain ⟨q0, q1, q2, q3, q4, q5, q6, qf⟩ := disk_cells h.blk
  have cv0 := fun (W : World) (hb : Below w.heap.size w W) => conv_own (h.o0.keep (w' := W) fun k hk => hb.block k (h.o0.lt hk).2)
  have cv1 := fun (W : World) (hb : Below w.heap.size w W) => conv_own (h.o1.keep (w' := W) fun k hk => hb.block k (h.o1.lt hk).2)
  have CV0 : Hid (∀ W, Below w.heap.size w W → (convert 47 9 (.slice a0 D.b0.length c0)).run Try.prog W = .ok (.string (B D.b0)) W) := cv0
  have CV1 : Hid (∀ W, Below w.heap.size w W → (convert 47 9 (.slice a1 D.b1.length c1)).run Try.prog W = .ok (.string (B D.b1)) W) := cv1
  clear h hcm cv0 cv1
  have ix0 : ∀ (x0 x1 x2 x3 : Value) (w : World), (Instr.index 175 (.agg #[x0, x1, x2, x3]) (.int .i64 0)).run Try.prog w = .ok (.agg #[x0, x1]) w := fun _ _ _ _ _ => by kernel_rfl
  have ix1 : ∀ (x0 x1 x2 x3 : Value) (w : World), (Instr.index 175 (.agg #[x0, x1, x2, x3]) (.int .i64 1)).run Try.prog w = .ok (.agg #[x2, x3]) w := fun _ _ _ _ _ => by kernel_rfl
  have hnn : ∀ w, (binOp .eql 33 (.slice none 0 0) (.slice none 0 0)).run Try.prog w = .ok (.bool true) w := fun _ => by kernel_rfl
  have hns : ∀ g n c w, (binOp .eql 33 (.slice (some ⟨g, 0, none⟩) n c) (.slice none 0 0)).run Try.prog w = .ok (.bool false) w := fun _ _ _ _ => by kernel_rfl
  go_enter Try.func91, Try.ntmps91
  go_wp2_with fail
  go_loopw [4, 5, 6, 15] (fun c s r kv wr => Below w.heap.size w wr ∧ ((kv = .int .i64 0 ∧ c = .int .i64 0 ∧ s = .int .i64 0 ∧ r = .slice none 0 0) ∨
    (kv = .int .i64 1 ∧ c = .int .i64 0 ∧ ((Hid (countsB (scanA D.b0).1 = true) ∧ s = .int .i64 ((jrnL (scanA D.b0).1).length : Nat) ∧ Hid (OwnR wr w.heap.size r (scanA D.b0).1)) ∨ (Hid (countsB (scanA D.b0).1 = false) ∧ s = .int .i64 0 ∧ r = .slice none 0 0))) ∨
    (kv = .int .i64 2 ∧ ((Hid (countsB (scanA D.b0).1 = false ∧ countsB (scanA D.b1).1 = false) ∧ c = .int .i64 0 ∧ s = .int .i64 0 ∧ r = .slice none 0 0) ∨
      (Hid (countsB (scanA D.b0).1 = true ∨ countsB (scanA D.b1).1 = true) ∧ c = .int .i64 D.found.1 ∧ s = .int .i64 ((jrnL D.found.2).length : Nat) ∧ Hid (OwnR wr w.heap.size r D.found.2)))))) (fun _ _ _ kv _ => 2 - (intOf kv).toNat)
  case atStart => exact ⟨Below.refl _ _, .inl ⟨rfl, rfl, rfl, rfl⟩⟩
  case round =>
    obtain ⟨hb, hcase⟩ := hrel
    rcases hcase with ⟨rfl, rfl, rfl, rfl⟩ | ⟨rfl, rfl, hcase⟩ | ⟨rfl, hcase⟩
    · as_aux_lemma =>
        have hsz0 := hb.size
        have hcv := CV0.out (wr.alloc (.cells #[.slice a0 D.b0.length c0, .int .i64 D.l0] 174)) (by repeat (first | exact Below.refl _ _ | assumption | with_reducible refine below_drewN ?_ _ | refine Gr.ext ?_ _ | refine Gr.alloc ?_ _ | refine Gr.drew ?_ | (refine Gr.set ?_ (by first | (simp; done) | (simp; omega)) _)))
        go_wp2_with fail
        refine (codecScan (B D.b0) _ (by rw [B_size]; omega)).mono ?_
        rintro e w1 ⟨lv, rs, rest, HS1, HS2, rfl, ho1, hb1⟩
        have hsc : scanA D.b0 = (rs, rest) := scanA_of HS1.out HS2.out
        have hbB : Below w.heap.size w w1 := belowVia hb1 (by repeat (first | exact Below.refl _ _ | assumption | with_reducible refine below_drewN ?_ _ | refine Gr.ext ?_ _ | refine Gr.alloc ?_ _ | refine Gr.drew ?_ | (refine Gr.set ?_ (by first | (simp; done) | (simp; omega)) _)))
        have hbW : Below wr.heap.size wr w1 := belowVia hb1 (by repeat (first | exact Below.refl _ _ | assumption | with_reducible refine below_drewN ?_ _ | refine Gr.ext ?_ _ | refine Gr.alloc ?_ _ | refine Gr.drew ?_ | (refine Gr.set ?_ (by first | (simp; done) | (simp; omega)) _)))
        have HBB : Hid (Below w.heap.size w w1) := hbB
        have HW1 : Hid (Below wr.heap.size wr w1) := hbW
        have hlen := scan_len D.b0
        rw [hsc] at hlen
        simp only at hlen
        obtain ⟨la, lc, hlv, hlc, hlm, hlg⟩ := ho1.cap
        subst hlv
        have HO1 : Hid (OwnR w1 w.heap.size (.slice la rs.length lc) rs) := ownsRow_base ho1 fun k hk => by have := (ho1.lt hk).1; simp at this; omega
        have hrs := ScanTo.len _ _ _ HS1.out
        have hszv : ((B D.b0).size : Int) - rest.length = ((jrnL rs).length : Nat) := by rw [B_size]; omega
        rw [hszv]
        have hrn : rs.length ≤ 100000000 := by rw [B_list] at hrs; omega
        have hrd := HO1.out.L.reads
        have HMC : Hid (∀ W, Below w1.heap.size w1 W → Calls Try.prog 138 #[.slice la rs.length lc] W fun e w' => e = .returned (.bool (countsB rs)) ∧ Below W.heap.size W w') := fun W hW => walMayCount la lc rs W (by omega) hlc hlm (hrd.keep fun k hk => hW.block k (reads_lt hrd hk))
        have HSC : Hid (scanA D.b0 = (rs, rest)) := hsc
        have HMAY : Hid (∀ r ∈ rs, r.may = true) := (scanTo_back _ _ _ HS1.out).2
        clear hb1 ho1 hlen hszv hrd hsc hbB hbW HS1 HS2 hrs hcv
        cases hcc : countsB rs
        · have HX : Hid (countsB (scanA D.b0).1 = false) := by show _ = _; rw [HSC.out]; exact hcc
          have HM2 := HMC.out
          rw [hcc] at HM2
          have HM3 : Hid _ := HM2
          clear HM2 hcc
          go_wp2_with fail
          refine wp_region_grows (by kernel_rfl) (by kernel_rfl) ?_
          repeat (go_big_quiet_step (exact Calls.grows (HM3.out _ (by repeat (first | exact Below.refl _ _ | assumption | with_reducible refine below_drewN ?_ _ | refine Gr.ext ?_ _ | refine Gr.alloc ?_ _ | refine Gr.drew ?_ | (refine Gr.set ?_ (by first | (simp; done) | (simp; omega)) _))))))
          refine wpQuiet_nil ?_
          rintro _ ⟨x, rfl⟩
          go_wp2_with fail
          exact ⟨⟨(by repeat (first | exact Below.refl _ _ | assumption | with_reducible refine below_drewN ?_ _ | refine Gr.ext ?_ _ | refine Gr.alloc ?_ _ | refine Gr.drew ?_ | (refine Gr.set ?_ (by first | (simp; done) | (simp; omega)) _))), .inr (.inl ⟨rfl, rfl, .inr ⟨HX, rfl, rfl⟩⟩)⟩, by simp [intOf]⟩
        · have HX : Hid (countsB (scanA D.b0).1 = true) := by show _ = _; rw [HSC.out]; exact hcc
          have HM2 := HMC.out
          rw [hcc] at HM2
          have HM3 : Hid _ := HM2
          clear HM2 hcc
          go_wp2_with fail
          refine wp_region_grows (by kernel_rfl) (by kernel_rfl) ?_
          repeat (go_big_quiet_step (exact Calls.grows (HM3.out _ (by repeat (first | exact Below.refl _ _ | assumption | with_reducible refine below_drewN ?_ _ | refine Gr.ext ?_ _ | refine Gr.alloc ?_ _ | refine Gr.drew ?_ | (refine Gr.set ?_ (by first | (simp; done) | (simp; omega)) _))))))
          refine wpQuiet_nil ?_
          rintro _ ⟨x, rfl⟩
          go_wp2_with fail
          exact ⟨⟨(by repeat (first | exact Below.refl _ _ | assumption | with_reducible refine below_drewN ?_ _ | refine Gr.ext ?_ _ | refine Gr.alloc ?_ _ | refine Gr.drew ?_ | (refine Gr.set ?_ (by first | (simp; done) | (simp; omega)) _))), .inr (.inl ⟨rfl, rfl, .inl ⟨HX, by rw [HSC.out], (by show OwnR _ _ _ _; rw [HSC.out]; exact HO1.out.ext x)⟩⟩)⟩, by simp [intOf]⟩
    · rcases hcase with ⟨HA, rfl, HOA⟩ | ⟨HA, rfl, rfl⟩
      · as_aux_lemma =>
          obtain ⟨ra, hra⟩ : ∃ ra, ra = (scanA D.b0).1 := ⟨_, rfl⟩
          rw [← hra]
          have HRA : Hid (ra = (scanA D.b0).1) := hra
          have HOA' : Hid (OwnR wr w.heap.size u6 ra) := by show OwnR _ _ _ _; rw [hra]; exact HOA.out
          have HA' : Hid (countsB ra = true) := by show _ = _; rw [hra]; exact HA.out
          clear HA HOA hra
          obtain ⟨a', ca, hu6, -, -, hga⟩ := HOA'.out.cap
          obtain ⟨ga, hga'⟩ := hga (fun e => by have := HA'.out; rw [e] at this; cases this)
          subst hga'
          obtain ⟨na, hna⟩ : ∃ na, na = ra.length := ⟨_, rfl⟩
          rw [← hna] at hu6
          subst hu6
          have hpos : (0 : Int) < (na : Int) := by
            have : ra ≠ [] := fun e => by have := HA'.out; rw [e] at this; cases this
            have := List.length_pos_iff.2 this
            omega
          have HG := head_gen HOA'.out
          have HNA : Hid (na = ra.length) := hna
          clear hna hga
          have hsz1 := hb.size
          have hcv := CV1.out (wr.alloc (.cells #[.slice a1 D.b1.length c1, .int .i64 D.l1] 174)) (by repeat (first | exact Below.refl _ _ | assumption | with_reducible refine below_drewN ?_ _ | refine Gr.ext ?_ _ | refine Gr.alloc ?_ _ | refine Gr.drew ?_ | (refine Gr.set ?_ (by first | (simp; done) | (simp; omega)) _)))
          go_wp2_with fail
          refine (codecScan (B D.b1) _ (by rw [B_size]; omega)).mono ?_
          rintro e w1 ⟨lv, rs, rest, HS1, HS2, rfl, ho1, hb1⟩
          have hsc : scanA D.b1 = (rs, rest) := scanA_of HS1.out HS2.out
          have hbB : Below w.heap.size w w1 := belowVia hb1 (by repeat (first | exact Below.refl _ _ | assumption | with_reducible refine below_drewN ?_ _ | refine Gr.ext ?_ _ | refine Gr.alloc ?_ _ | refine Gr.drew ?_ | (refine Gr.set ?_ (by first | (simp; done) | (simp; omega)) _)))
          have hbW : Below wr.heap.size wr w1 := belowVia hb1 (by repeat (first | exact Below.refl _ _ | assumption | with_reducible refine below_drewN ?_ _ | refine Gr.ext ?_ _ | refine Gr.alloc ?_ _ | refine Gr.drew ?_ | (refine Gr.set ?_ (by first | (simp; done) | (simp; omega)) _)))
          have HBB : Hid (Below w.heap.size w w1) := hbB
          have HW1 : Hid (Below wr.heap.size wr w1) := hbW
          have hlen := scan_len D.b1
          rw [hsc] at hlen
          simp only at hlen
          obtain ⟨la, lc, hlv, hlc, hlm, hlg⟩ := ho1.cap
          subst hlv
          have HO1 : Hid (OwnR w1 w.heap.size (.slice la rs.length lc) rs) := ownsRow_base ho1 fun k hk => by have := (ho1.lt hk).1; simp at this; omega
          have hrs := ScanTo.len _ _ _ HS1.out
          have hszv : ((B D.b1).size : Int) - rest.length = ((jrnL rs).length : Nat) := by rw [B_size]; omega
          rw [hszv]
          have hrn : rs.length ≤ 100000000 := by rw [B_list] at hrs; omega
          have hrd := HO1.out.L.reads
          have HMC : Hid (∀ W, Below w1.heap.size w1 W → Calls Try.prog 138 #[.slice la rs.length lc] W fun e w' => e = .returned (.bool (countsB rs)) ∧ Below W.heap.size W w') := fun W hW => walMayCount la lc rs W (by omega) hlc hlm (hrd.keep fun k hk => hW.block k (reads_lt hrd hk))
          have HSC : Hid (scanA D.b1 = (rs, rest)) := hsc
          have HMAY : Hid (∀ r ∈ rs, r.may = true) := (scanTo_back _ _ _ HS1.out).2
          clear hb1 ho1 hlen hszv hrd hsc hbB hbW HS1 HS2 hrs hcv
          have HOA1 : Hid (OwnR w1 w.heap.size (.slice (some ⟨ga, 0, none⟩) na ca) ra) := HOA'.out.keep fun k hk => HW1.out.block k (HOA'.out.lt hk).2
          cases hcc : countsB rs
          · have HX : Hid (D.found = (0, ra)) := by
              show _ = _
              unfold Dk.found
              rw [← HRA.out, HSC.out, HA'.out, hcc]; rfl
            have HM2 := HMC.out
            rw [hcc] at HM2
            have HM3 : Hid _ := HM2
            clear HM2 hcc
            go_wp2_with fail
            refine wp_region_grows (by kernel_rfl) (by kernel_rfl) ?_
            repeat (go_big_quiet_step (exact Calls.grows (HM3.out _ (by repeat (first | exact Below.refl _ _ | assumption | with_reducible refine below_drewN ?_ _ | refine Gr.ext ?_ _ | refine Gr.alloc ?_ _ | refine Gr.drew ?_ | (refine Gr.set ?_ (by first | (simp; done) | (simp; omega)) _))))))
            refine wpQuiet_nil ?_
            rintro _ ⟨x, rfl⟩
            go_wp2_with fail
            exact ⟨⟨(by repeat (first | exact Below.refl _ _ | assumption | with_reducible refine below_drewN ?_ _ | refine Gr.ext ?_ _ | refine Gr.alloc ?_ _ | refine Gr.drew ?_ | (refine Gr.set ?_ (by first | (simp; done) | (simp; omega)) _))), .inr (.inr ⟨rfl, .inr ⟨.inl (HRA.out ▸ HA'.out), (by rw [HX.out]; first | done | rfl), (by rw [HX.out]; first | done | rfl), (by show OwnR _ _ _ _; rw [HX.out]; exact (HOA1.out).ext x)⟩⟩)⟩, by simp [intOf]⟩
          · have hrne : rs ≠ [] := fun e => by rw [e] at hcc; cases hcc
            obtain ⟨gb, hgb⟩ := hlg hrne
            subst hgb
            have hposb : (0 : Int) < (rs.length : Int) := by have := List.length_pos_iff.2 hrne; omega
            have HGB := head_gen HO1.out
            have z1 := HG (fun e => by have := HA'.out; rw [e] at this; cases this)
            have z2 := HGB hrne
            have z1' : w1.cell? ⟨ga, 1, none⟩ = _ := (World.cell?_of_block (a := ⟨ga, 1, none⟩) (HW1.out.block ga (HOA'.out.lt rfl).2)).trans z1
            have hga1 : ga < w1.heap.size := (HOA1.out.lt rfl).2
            have hgb1 : gb < w1.heap.size := (HO1.out.lt rfl).2
            obtain ⟨g1, hg1⟩ : ∃ g, g = (ra.headD Rec.zero).gen := ⟨_, rfl⟩
            obtain ⟨g2, hg2⟩ : ∃ g, g = (rs.headD Rec.zero).gen := ⟨_, rfl⟩
            rw [← hg1] at z1'
            rw [← hg2] at z2
            have HG1 : Hid (g1 = (ra.headD Rec.zero).gen) := hg1
            have HG2 : Hid (g2 = (rs.headD Rec.zero).gen) := hg2
            have HCC : Hid (countsB rs = true) := hcc
            clear HG HGB z1 hg1 hg2 hrne hlg
            by_cases hgt : g1 < g2
            · have HX : Hid (D.found = (1, rs)) := by
                show _ = _
                unfold Dk.found
                rw [← HRA.out, HSC.out, HA'.out, HCC.out, if_pos rfl, if_pos ⟨rfl, by rw [← HG1.out, ← HG2.out]; exact hgt⟩]
              have hd : decide (g2 > g1) = true := decide_eq_true hgt
              have HM2 := HMC.out
              rw [hcc] at HM2
              have HM3 : Hid _ := HM2
              clear HM2 hcc
              go_wp2_with fail
              refine wp_region_grows (by kernel_rfl) (by kernel_rfl) ?_
              repeat (go_big_quiet_step (exact Calls.grows (HM3.out _ (by repeat (first | exact Below.refl _ _ | assumption | with_reducible refine below_drewN ?_ _ | refine Gr.ext ?_ _ | refine Gr.alloc ?_ _ | refine Gr.drew ?_ | (refine Gr.set ?_ (by first | (simp; done) | (simp; omega)) _))))))
              refine wpQuiet_nil ?_
              rintro _ ⟨x, rfl⟩
              go_wp2_with fail
              exact ⟨⟨(by repeat (first | exact Below.refl _ _ | assumption | with_reducible refine below_drewN ?_ _ | refine Gr.ext ?_ _ | refine Gr.alloc ?_ _ | refine Gr.drew ?_ | (refine Gr.set ?_ (by first | (simp; done) | (simp; omega)) _))), .inr (.inr ⟨rfl, .inr ⟨.inl (HRA.out ▸ HA'.out), (by rw [HX.out]; first | done | rfl), (by rw [HX.out]; first | done | rfl), (by show OwnR _ _ _ _; rw [HX.out]; exact (HO1.out).ext x)⟩⟩)⟩, by simp [intOf]⟩
            · have HX : Hid (D.found = (0, ra)) := by
                show _ = _
                unfold Dk.found
                rw [← HRA.out, HSC.out, HA'.out, HCC.out, if_pos rfl, if_neg (fun h => hgt (by rw [HG1.out, HG2.out]; exact h.2))]
              have hd : decide (g2 > g1) = false := decide_eq_false hgt
              have HM2 := HMC.out
              rw [hcc] at HM2
              have HM3 : Hid _ := HM2
              clear HM2 hcc
              go_wp2_with fail
              refine wp_region_grows (by kernel_rfl) (by kernel_rfl) ?_
              repeat (go_big_quiet_step (exact Calls.grows (HM3.out _ (by repeat (first | exact Below.refl _ _ | assumption | with_reducible refine below_drewN ?_ _ | refine Gr.ext ?_ _ | refine Gr.alloc ?_ _ | refine Gr.drew ?_ | (refine Gr.set ?_ (by first | (simp; done) | (simp; omega)) _))))))
              refine wpQuiet_nil ?_
              rintro _ ⟨x, rfl⟩
              go_wp2_with fail
              exact ⟨⟨(by repeat (first | exact Below.refl _ _ | assumption | with_reducible refine below_drewN ?_ _ | refine Gr.ext ?_ _ | refine Gr.alloc ?_ _ | refine Gr.drew ?_ | (refine Gr.set ?_ (by first | (simp; done) | (simp; omega)) _))), .inr (.inr ⟨rfl, .inr ⟨.inl (HRA.out ▸ HA'.out), (by rw [HX.out]; first | done | rfl), (by rw [HX.out]; first | done | rfl), (by show OwnR _ _ _ _; rw [HX.out]; exact (HOA1.out).ext x)⟩⟩)⟩, by simp [intOf]⟩
      · as_aux_lemma =>
          have hsz1 := hb.size
          have hcv := CV1.out (wr.alloc (.cells #[.slice a1 D.b1.length c1, .int .i64 D.l1] 174)) (by repeat (first | exact Below.refl _ _ | assumption | with_reducible refine below_drewN ?_ _ | refine Gr.ext ?_ _ | refine Gr.alloc ?_ _ | refine Gr.drew ?_ | (refine Gr.set ?_ (by first | (simp; done) | (simp; omega)) _)))
          go_wp2_with fail
          refine (codecScan (B D.b1) _ (by rw [B_size]; omega)).mono ?_
          rintro e w1 ⟨lv, rs, rest, HS1, HS2, rfl, ho1, hb1⟩
          have hsc : scanA D.b1 = (rs, rest) := scanA_of HS1.out HS2.out
          have hbB : Below w.heap.size w w1 := belowVia hb1 (by repeat (first | exact Below.refl _ _ | assumption | with_reducible refine below_drewN ?_ _ | refine Gr.ext ?_ _ | refine Gr.alloc ?_ _ | refine Gr.drew ?_ | (refine Gr.set ?_ (by first | (simp; done) | (simp; omega)) _)))
          have hbW : Below wr.heap.size wr w1 := belowVia hb1 (by repeat (first | exact Below.refl _ _ | assumption | with_reducible refine below_drewN ?_ _ | refine Gr.ext ?_ _ | refine Gr.alloc ?_ _ | refine Gr.drew ?_ | (refine Gr.set ?_ (by first | (simp; done) | (simp; omega)) _)))
          have HBB : Hid (Below w.heap.size w w1) := hbB
          have HW1 : Hid (Below wr.heap.size wr w1) := hbW
          have hlen := scan_len D.b1
          rw [hsc] at hlen
          simp only at hlen
          obtain ⟨la, lc, hlv, hlc, hlm, hlg⟩ := ho1.cap
          subst hlv
          have HO1 : Hid (OwnR w1 w.heap.size (.slice la rs.length lc) rs) := ownsRow_base ho1 fun k hk => by have := (ho1.lt hk).1; simp at this; omega
          have hrs := ScanTo.len _ _ _ HS1.out
          have hszv : ((B D.b1).size : Int) - rest.length = ((jrnL rs).length : Nat) := by rw [B_size]; omega
          rw [hszv]
          have hrn : rs.length ≤ 100000000 := by rw [B_list] at hrs; omega
          have hrd := HO1.out.L.reads
          have HMC : Hid (∀ W, Below w1.heap.size w1 W → Calls Try.prog 138 #[.slice la rs.length lc] W fun e w' => e = .returned (.bool (countsB rs)) ∧ Below W.heap.size W w') := fun W hW => walMayCount la lc rs W (by omega) hlc hlm (hrd.keep fun k hk => hW.block k (reads_lt hrd hk))
          have HSC : Hid (scanA D.b1 = (rs, rest)) := hsc
          have HMAY : Hid (∀ r ∈ rs, r.may = true) := (scanTo_back _ _ _ HS1.out).2
          clear hb1 ho1 hlen hszv hrd hsc hbB hbW HS1 HS2 hrs hcv
          cases hcc : countsB rs
          · have HX : Hid (countsB (scanA D.b0).1 = false ∧ countsB (scanA D.b1).1 = false) := ⟨HA.out, by rw [HSC.out]; exact hcc⟩
            have HM2 := HMC.out
            rw [hcc] at HM2
            have HM3 : Hid _ := HM2
            clear HM2 hcc
            go_wp2_with fail
            refine wp_region_grows (by kernel_rfl) (by kernel_rfl) ?_
            repeat (go_big_quiet_step (exact Calls.grows (HM3.out _ (by repeat (first | exact Below.refl _ _ | assumption | with_reducible refine below_drewN ?_ _ | refine Gr.ext ?_ _ | refine Gr.alloc ?_ _ | refine Gr.drew ?_ | (refine Gr.set ?_ (by first | (simp; done) | (simp; omega)) _))))))
            refine wpQuiet_nil ?_
            rintro _ ⟨x, rfl⟩
            go_wp2_with fail
            exact ⟨⟨(by repeat (first | exact Below.refl _ _ | assumption | with_reducible refine below_drewN ?_ _ | refine Gr.ext ?_ _ | refine Gr.alloc ?_ _ | refine Gr.drew ?_ | (refine Gr.set ?_ (by first | (simp; done) | (simp; omega)) _))), .inr (.inr ⟨rfl, .inl ⟨HX, rfl, rfl, rfl⟩⟩)⟩, by simp [intOf]⟩
          · have HX : Hid (D.found = (1, rs)) := by
              show _ = _
              unfold Dk.found
              rw [HA.out, HSC.out, hcc]; rfl
            have HCC : Hid (countsB (scanA D.b1).1 = true) := by show _ = _; rw [HSC.out]; exact hcc
            have HM2 := HMC.out
            rw [hcc] at HM2
            have HM3 : Hid _ := HM2
            clear HM2 hcc
            go_wp2_with fail
            refine wp_region_grows (by kernel_rfl) (by kernel_rfl) ?_
            repeat (go_big_quiet_step (exact Calls.grows (HM3.out _ (by repeat (first | exact Below.refl _ _ | assumption | with_reducible refine below_drewN ?_ _ | refine Gr.ext ?_ _ | refine Gr.alloc ?_ _ | refine Gr.drew ?_ | (refine Gr.set ?_ (by first | (simp; done) | (simp; omega)) _))))))
            refine wpQuiet_nil ?_
            rintro _ ⟨x, rfl⟩
            go_wp2_with fail
            exact ⟨⟨(by repeat (first | exact Below.refl _ _ | assumption | with_reducible refine below_drewN ?_ _ | refine Gr.ext ?_ _ | refine Gr.alloc ?_ _ | refine Gr.drew ?_ | (refine Gr.set ?_ (by first | (simp; done) | (simp; omega)) _))), .inr (.inr ⟨rfl, .inr ⟨.inr HCC.out, (by rw [HX.out]; first | done | rfl), (by rw [HX.out]; first | done | rfl), (by show OwnR _ _ _ _; rw [HX.out]; exact (HO1.out).ext x)⟩⟩)⟩, by simp [intOf]⟩

    · rcases hcase with ⟨HA, rfl, rfl, rfl⟩ | ⟨HA, rfl, rfl, HO⟩
      · as_aux_lemma =>
          have HX : Hid (D.found = (0, [beginR])) := by
            show _ = _
            unfold Dk.found
            rw [HA.out.1, HA.out.2]; rfl
          have HD := H.out.grown hb
          go_wp2_with fail
          refine (walBegin _ p _ _ none kp D HD rfl).mono ?_
          rintro e w2 ⟨v, u0, rfl, ho, hD2, hu0, ht2⟩
          have HO2 : Hid (OwnR w2 w.heap.size v [beginR]) := ownsRow_base ho fun k hk => Nat.le_trans hb.size (ho.lt hk).1
          have HD2 : Hid (DiskAt w2 p u0 (.slice a1 D.b1.length c1) none kp (D.set 0 (jrnL [beginR]))) := hD2
          have HU0 : Hid (∀ k, u0.ownBlock = some k → w.heap.size ≤ k ∧ v.ownBlock ≠ some k) := fun k hk => ⟨Nat.le_trans hb.size (hu0 k hk).1, (hu0 k hk).2⟩
          have HV : Hid (∀ k, v.ownBlock = some k → wr.heap.size ≤ k) := fun k hk => (ho.lt hk).1
          have HT : Hid (w.turned w2 (fun k => k = p)) := (World.turned.of_below hb _).trans ht2 fun k _ h => h
          have HBR : Hid (w.heap.size ≤ wr.heap.size) := hb.size
          clear ho hD2 hu0 ht2 HD
          go_wp2_with fail
          go_ret2
          refine ⟨v, u0, _, by rw [HX.out]; rfl, by rw [HX.out]; exact HO2.out, by show DiskAt _ _ _ _ _ _ (D.set D.found.1 (jrnL D.found.2)); rw [HX.out]; exact HD2.out, fun x hx => ?_, HT.out⟩
          have hp := H.out.lt
          have hbr := HBR.out
          rcases hx with h | h | h
          · exact ⟨.inl (.inl h), fun e => by have := HV.out x e; omega⟩
          · exact ⟨.inr (HU0.out x h).1, fun e => (HU0.out x h).2 e⟩
          · exact ⟨.inl (.inr (.inr h)), fun e => by have := HV.out x e; have := (H.out.o1.lt h).2; omega⟩
      · as_aux_lemma =>
          have hcs : (D.found = (0, (scanA D.b0).1) ∧ countsB (scanA D.b0).1 = true) ∨ (D.found = (1, (scanA D.b1).1) ∧ countsB (scanA D.b1).1 = true) := by
            unfold Dk.found
            rcases Bool.eq_false_or_eq_true (countsB (scanA D.b0).1) with h0 | h0
            · rw [if_pos h0]
              split
              · rename_i h; exact .inr ⟨rfl, h.1⟩
              · exact .inl ⟨rfl, h0⟩
            · rcases HA.out with h | h
              · rw [h0] at h; cases h
              · rw [if_neg (by rw [h0]; decide), if_pos h]; exact .inr ⟨rfl, h⟩
          rcases hcs with ⟨hx, hct⟩ | ⟨hx, hct⟩
          · have hne : (scanA D.b0).1 ≠ [] := fun e => by rw [e] at hct; cases hct
            obtain ⟨rs, hrs⟩ : ∃ rs, rs = (scanA D.b0).1 := ⟨_, rfl⟩
            rw [← hrs] at hx hne hct
            have HX : Hid (D.found = (0, rs)) := hx
            obtain ⟨m, hm⟩ : ∃ m, m = (jrnL rs).length := ⟨_, rfl⟩
            have hsl := scan_len D.b0
            rw [← hrs] at hsl
            have hml : m ≤ D.b0.length := by
              have := congrArg List.length hsl.2.2
              rw [List.length_take] at this; omega
            have HTK : Hid (D.b0.take m = jrnL rs) := by show _ = _; rw [hm]; exact hsl.2.2
            have hcalm : D.l0 = D.b0.length := HC.out.c0
            have HD := H.out.grown hb
            obtain ⟨r0, r1, r2, r3, r4, r5, r6, rf⟩ := disk_cells HD.blk
            rw [hx] at HO ⊢
            simp only at HO ⊢
            rw [← hm]
            have HM9 : Hid (m = (jrnL rs).length) := hm
            obtain ⟨ga, ca, hu6, -, -, hga⟩ := HO.out.cap
            obtain ⟨g, hg⟩ := hga hne
            subst hg
            obtain ⟨na, hna⟩ : ∃ na, na = rs.length := ⟨_, rfl⟩
            rw [← hna] at hu6
            subst hu6
            have HO' : Hid (OwnR wr w.heap.size (.slice (some ⟨g, 0, none⟩) na ca) rs) := HO.out
            have hbk := HD.blk
            have HBK : Hid _ := hbk
            have HD' : Hid (DiskAt wr p (.slice a0 D.b0.length c0) (.slice a1 D.b1.length c1) none kp D) := HD
            clear HO hna hm hx hsl hga hbk HD q0 q1 q2 q3 q4 q5 q6 qf
            go_wp2_with fail
            refine (walShorten wr p 0 a0 _ c0 D.l0 m _ rfl r0 r1 rf hml hc0 hm0 ha0).mono ?_
            rintro e w2 ⟨rfl, hw2⟩
            have hmin : min (D.l0 : Int) m = m := by rw [hcalm]; omega
            rw [hmin] at hw2
            have ht2 : wr.turned w2 (fun k => k = p) := by rw [hw2]; exact turned_set (S := fun k => k = p) (turned_set (S := fun k => k = p) (World.turned.refl _ _) rfl _) rfl _
            have hd2 := HD'.out.short0 hcalm m hml (by rw [hw2]; exact cells_set (cells_set HD'.out.blk _) _) ht2
            rw [HTK.out] at hd2
            have HD2 : Hid (DiskAt w2 p (.slice a0 m c0) (.slice a1 D.b1.length c1) none kp (D.set 0 (jrnL rs))) := hd2
            have hp := H.out.lt
            have hgp : g ≠ p := fun e => by have := (HO'.out.lt (k := g) rfl).1; omega
            have HO2 : Hid (OwnR w2 w.heap.size (.slice (some ⟨g, 0, none⟩) na ca) rs) := HO'.out.keep fun k hk => ht2.block k (HO'.out.lt hk).2 (fun e => hgp (by cases hk; exact e))
            have HT : Hid (w.turned w2 (fun k => k = p)) := (World.turned.of_below hb _).trans ht2 fun k _ h => h
            have HG : Hid (w.heap.size ≤ g) := (HO'.out.lt (k := g) rfl).1
            clear hw2 ht2 hd2 r0 r1 r2 r3 r4 r5 r6 rf hcalm hmin hml
            go_wp2_with fail
            go_ret2
            refine ⟨_, _, _, by rw [HX.out]; rfl, by rw [HX.out]; exact HO2.out, by show DiskAt _ _ _ _ _ _ (D.set D.found.1 (jrnL D.found.2)); rw [HX.out]; exact HD2.out, fun x hx => ?_, HT.out⟩
            have b0 : (Value.slice a0 m c0).ownBlock = (Value.slice a0 D.b0.length c0).ownBlock := by cases a0 <;> rfl
            have b1 : (Value.slice a1 m c1).ownBlock = (Value.slice a1 D.b1.length c1).ownBlock := by cases a1 <;> rfl
            have hx' : footD p (.slice a0 D.b0.length c0) (.slice a1 D.b1.length c1) x := by
              unfold footD at hx ⊢
              first | (rw [b0] at hx; exact hx) | (rw [b1] at hx; exact hx)
            exact ⟨.inl hx', fun e => by have : x = g := by (cases e; rfl)
                                         have := H.out.foot_lt hx'; have := HG.out; omega⟩
          · have hne : (scanA D.b1).1 ≠ [] := fun e => by rw [e] at hct; cases hct
            obtain ⟨rs, hrs⟩ : ∃ rs, rs = (scanA D.b1).1 := ⟨_, rfl⟩
            rw [← hrs] at hx hne hct
            have HX : Hid (D.found = (1, rs)) := hx
            obtain ⟨m, hm⟩ : ∃ m, m = (jrnL rs).length := ⟨_, rfl⟩
            have hsl := scan_len D.b1
            rw [← hrs] at hsl
            have hml : m ≤ D.b1.length := by
              have := congrArg List.length hsl.2.2
              rw [List.length_take] at this; omega
            have HTK : Hid (D.b1.take m = jrnL rs) := by show _ = _; rw [hm]; exact hsl.2.2
            have hcalm : D.l1 = D.b1.length := HC.out.c1
            have HD := H.out.grown hb
            obtain ⟨r0, r1, r2, r3, r4, r5, r6, rf⟩ := disk_cells HD.blk
            rw [hx] at HO ⊢
            simp only at HO ⊢
            rw [← hm]
            have HM9 : Hid (m = (jrnL rs).length) := hm
            obtain ⟨ga, ca, hu6, -, -, hga⟩ := HO.out.cap
            obtain ⟨g, hg⟩ := hga hne
            subst hg
            obtain ⟨na, hna⟩ : ∃ na, na = rs.length := ⟨_, rfl⟩
            rw [← hna] at hu6
            subst hu6
            have HO' : Hid (OwnR wr w.heap.size (.slice (some ⟨g, 0, none⟩) na ca) rs) := HO.out
            have hbk := HD.blk
            have HBK : Hid _ := hbk
            have HD' : Hid (DiskAt wr p (.slice a0 D.b0.length c0) (.slice a1 D.b1.length c1) none kp D) := HD
            clear HO hna hm hx hsl hga hbk HD q0 q1 q2 q3 q4 q5 q6 qf
            go_wp2_with fail
            refine (walShorten wr p 2 a1 _ c1 D.l1 m _ rfl r2 r3 rf hml hc1 hm1 ha1).mono ?_
            rintro e w2 ⟨rfl, hw2⟩
            have hmin : min (D.l1 : Int) m = m := by rw [hcalm]; omega
            rw [hmin] at hw2
            have ht2 : wr.turned w2 (fun k => k = p) := by rw [hw2]; exact turned_set (S := fun k => k = p) (turned_set (S := fun k => k = p) (World.turned.refl _ _) rfl _) rfl _
            have hd2 := HD'.out.short1 hcalm m hml (by rw [hw2]; exact cells_set (cells_set HD'.out.blk _) _) ht2
            rw [HTK.out] at hd2
            have HD2 : Hid (DiskAt w2 p (.slice a0 D.b0.length c0) (.slice a1 m c1) none kp (D.set 1 (jrnL rs))) := hd2
            have hp := H.out.lt
            have hgp : g ≠ p := fun e => by have := (HO'.out.lt (k := g) rfl).1; omega
            have HO2 : Hid (OwnR w2 w.heap.size (.slice (some ⟨g, 0, none⟩) na ca) rs) := HO'.out.keep fun k hk => ht2.block k (HO'.out.lt hk).2 (fun e => hgp (by cases hk; exact e))
            have HT : Hid (w.turned w2 (fun k => k = p)) := (World.turned.of_below hb _).trans ht2 fun k _ h => h
            have HG : Hid (w.heap.size ≤ g) := (HO'.out.lt (k := g) rfl).1
            clear hw2 ht2 hd2 r0 r1 r2 r3 r4 r5 r6 rf hcalm hmin hml
            go_wp2_with fail
            go_ret2
            refine ⟨_, _, _, by rw [HX.out]; rfl, by rw [HX.out]; exact HO2.out, by show DiskAt _ _ _ _ _ _ (D.set D.found.1 (jrnL D.found.2)); rw [HX.out]; exact HD2.out, fun x hx => ?_, HT.out⟩
            have b0 : (Value.slice a0 m c0).ownBlock = (Value.slice a0 D.b0.length c0).ownBlock := by cases a0 <;> rfl
            have b1 : (Value.slice a1 m c1).ownBlock = (Value.slice a1 D.b1.length c1).ownBlock := by cases a1 <;> rfl
            have hx' : footD p (.slice a0 D.b0.length c0) (.slice a1 D.b1.length c1) x := by
              unfold footD at hx ⊢
              first | (rw [b0] at hx; exact hx) | (rw [b1] at hx; exact hx)
            exact ⟨.inl hx', fun e => by have : x = g := by (cases e; rfl)
                                         have := H.out.foot_lt hx'; have := HG.out; omega⟩
end Go.Proofs.Ytcbbnmodjnnbeaa
/- Open and State: the program. -/
set_option linter.unusedSimpArgs false
set_option linter.unusedVariables false
namespace Go.Proofs.Ytcbbnmodjnnbeaa
open Go.RowKit

theorem Dk.found_ok (D : Dk) : countsB D.found.2 = true ∧ (∀ r ∈ D.found.2, r.may = true) ∧ (D.found.1 = 0 ∨ D.found.1 = 1) := by
  have h0 := (scanA_back D.b0).2
  have h1 := (scanA_back D.b1).2
  unfold Dk.found
  split
  · rename_i c0
    split
    · rename_i c1; exact ⟨c1.1, h1, .inr rfl⟩
    · exact ⟨c0, h0, .inl rfl⟩
  · split
    · rename_i c1; exact ⟨c1, h1, .inr rfl⟩
    · exact ⟨by decide, fun r hr => by rw [List.mem_singleton.1 hr]; exact beginR_may, .inl rfl⟩
theorem DiskAt.ended {w w' : World} {p : Nat} {v0 v1 : Value} {J : Option Nat} {kp : Int} {D : Dk} (h : DiskAt w p v0 v1 J kp D) (hb : w'.heap[p]? = some (.cells #[v0, .int .i64 D.l0, v1, .int .i64 D.l1, .int .i64 D.due, .int .i64 kp, .pointer none] 177)) (ht : w.turned w' (fun k => k = p ∨ J = some k)) : DiskAt w' p v0 v1 none kp D :=
  ⟨hb, h.kq, h.kb, h.db, h.o0.keep fun k hk => ht.block k (h.o0.lt hk).2 (fun e => e.elim (fun e => h.n0 (e ▸ hk)) fun e => (h.jb k e).2.1 hk), h.o1.keep fun k hk => ht.block k (h.o1.lt hk).2 (fun e => e.elim (fun e => h.n1 (e ▸ hk)) fun e => (h.jb k e).2.2.1 hk), h.n0, h.n1, h.dis, h.fit, fun j hj => by cases hj⟩
theorem DiskAt.begun {w : World} {p : Nat} {v0 v1 : Value} {kp : Int} {D : Dk} (h : DiskAt w p v0 v1 none kp D) {j : Nat} {cs : Array Value} (hj : w.heap[j]? = some (.cells cs 182)) (hcs : cs.size = 9) (hjp : j ≠ p) (hf : ¬ footD p v0 v1 j) : DiskAt (w.setCell ⟨p, 6, none⟩ (.pointer (some ⟨j, 0, none⟩))) p v0 v1 (some j) kp D :=
  ⟨cells_set h.blk _, h.kq, h.kb, h.db, h.o0.keep fun k hk => Below.heap_setCell _ _ _ _ (fun e => h.n0 (by rw [hk, e])), h.o1.keep fun k hk => Below.heap_setCell _ _ _ _ (fun e => h.n1 (by rw [hk, e])), h.n0, h.n1, h.dis, h.fit, fun j' hj' => by
    injection hj' with e
    subst e
    exact ⟨hjp, fun e => hf (.inr (.inl e)), fun e => hf (.inr (.inr e)), cs, hcs, (Below.heap_setCell _ _ _ _ hjp).trans hj⟩⟩
/-- A journal that is not over. -/
structure LiveAt (w : World) (p : Nat) (v0 v1 : Value) (j : Nat) (lv : Value) (kp : Int) (D : Dk) (k : Nat) (S : WSt) : Prop where
  disk : DiskAt w p v0 v1 (some j) kp D
  st : StaAt w j 2 [.pointer (some ⟨p, 0, none⟩), .int .i64 k] 182 lv S
  sep : ∀ x, lv.ownBlock = some x → ¬ footD p v0 v1 x
def footV (p : Nat) (v0 v1 : Value) (j : Nat) (lv : Value) (x : Nat) : Prop := footD p v0 v1 x ∨ x = j ∨ lv.ownBlock = some x
set_option maxRecDepth 100000 in
set_option maxHeartbeats 8000000 in
theorem walOpen (w : World) (p : Nat) (v0 v1 : Value) (J : Option Nat) (kp : Int) (D : Dk) (h : DiskAt w p v0 v1 J kp D) (hcm : D.Calm) (hs0 : D.b0.length ≤ 100000000) (hs1 : D.b1.length ≤ 100000000) (hfl : D.found.2.length ≤ 100000000) :
    Calls Try.prog 40 #[.pointer (some ⟨p, 0, none⟩)] w fun e w' => ∃ j u0 u1 lv, e = .returned (.tuple #[.pointer (some ⟨j, 0, none⟩), .int .i64 0]) ∧ LiveAt w' p u0 u1 j lv kp D.opened D.found.1 (told D.found.2) ∧ w.heap.size ≤ j ∧ (∀ x, footV p u0 u1 j lv x → footD p v0 v1 x ∨ w.heap.size ≤ x) ∧ (∀ i, J = some i → w'.heap[i]? = some (.cells zeroWal 182)) ∧ w.turned w' (fun x => x = p ∨ J = some x) := by
  have H : Hid (DiskAt w p v0 v1 J kp D) := h
  obtain ⟨hok1, hok2, hok3⟩ := D.found_ok
  obtain ⟨r, rs, hfr⟩ : ∃ r rs, D.found.2 = r :: rs := by
    cases hf : D.found.2 with
    | nil => rw [hf] at hok1; cases hok1
    | cons r rs => exact ⟨r, rs, rfl⟩
  have hkr : r.kind = 1 := by rw [hfr] at hok1; exact (counts_cons hok1).1
  have hmr : ∀ x ∈ r :: rs, x.may = true := by rw [← hfr]; exact hok2
  have hlr : rs.length ≤ 100000000 := by rw [hfr] at hfl; simp only [List.length_cons] at hfl; omega
  obtain ⟨kk, hkk⟩ : ∃ kk, kk = D.found.1 := ⟨_, rfl⟩
  have HF : Hid (D.found.2 = r :: rs) := hfr
  have HKK : Hid (kk = D.found.1) := hkk
  clear h hok1 hok2 hok3 hfr hkk hfl
  go_enter Try.func40, Try.ntmps40
  go_wp2_with fail
  refine (walEnd w p v0 v1 J D.l0 D.l1 D.due kp H.out.blk (fun j hj => by obtain ⟨a, b, c, cs, d, e⟩ := H.out.jb j hj; exact ⟨a, cs, d, e⟩)).mono ?_
  rintro e w1 ⟨rfl, hb1, hj1, ht1⟩
  have HD1 : Hid (DiskAt w1 p v0 v1 none kp D) := H.out.ended hb1 ht1
  have HJ1 : Hid (∀ i, J = some i → w1.heap[i]? = some (.cells zeroWal 182)) := hj1
  have HT1 : Hid (w.turned w1 (fun x => x = p ∨ J = some x)) := ht1
  clear hb1 hj1 ht1
  go_wp2_with fail
  refine (walCounting _ p v0 v1 kp D HD1.out hcm hs0 hs1).mono ?_
  rintro e w2 ⟨v, u0, u1, rfl, ho2, hd2, hf2, ht2⟩
  rw [HF.out] at ho2
  rw [← HKK.out]
  have HO2 : Hid (OwnR w2 w1.heap.size v (r :: rs)) := ho2
  have HD2 : Hid (DiskAt w2 p u0 u1 none kp D.opened) := hd2
  have HF2 : Hid (∀ x, footD p u0 u1 x → (footD p v0 v1 x ∨ w1.heap.size ≤ x) ∧ v.ownBlock ≠ some x) := hf2
  have HT2 : Hid (w1.turned w2 (fun x => x = p)) := ht2
  obtain ⟨va, vc, hv, hvc, hvm, -⟩ := ho2.cap
  subst hv
  have hrd := ho2.L.reads
  clear ho2 hd2 hf2 ht2
  go_wp2_with fail
  refine (walStateOf w2 va vc r rs hrd hvc hvm hmr hkr hlr).mono ?_
  rintro e w3 ⟨lv, rfl, hl3, hlb3, hb3⟩
  have HL3 : Hid (w3.ownL 135 8 lv ((told (r :: rs)).log.map Ety.cells)) := hl3
  have HLB : Hid (∀ k, lv.ownBlock = some k → w2.heap.size ≤ k) := hlb3
  have HD3 : Hid (DiskAt w3 p u0 u1 none kp D.opened) := HD2.out.grown hb3
  have HB3 : Hid (Below w2.heap.size w2 w3) := hb3
  obtain ⟨q0, q1, q2, q3, q4, q5, q6, qf⟩ := disk_cells HD3.out.blk
  have hp3 : p < w3.heap.size := HD3.out.lt
  obtain ⟨S, hS⟩ : ∃ S, S = told (r :: rs) := ⟨_, rfl⟩
  rw [← hS]
  have HS : Hid (S = told (r :: rs)) := hS
  unfold WSt.cellsA
  clear hl3 hlb3 hb3 hrd hS
  go_wp2_with fail
  have hns : (w3.setCell ⟨p, 6, none⟩ (.pointer (some ⟨w3.heap.size, 0, none⟩))).heap.size = w3.heap.size := by simp
  have hp2 : p < w2.heap.size := HD2.out.lt
  have hsz2 : w2.heap.size ≤ w3.heap.size := HB3.out.size
  have hft : ∀ x, footD p u0 u1 x → x < w2.heap.size := fun x hx => HD2.out.foot_lt hx
  have hfj : ¬ footD p u0 u1 w3.heap.size := fun hx => by have := hft _ hx; omega
  refine world_any (F := fun W => (∀ k, k < w3.heap.size → k ≠ p → W.heap[k]? = w3.heap[k]?) ∧ W.heap[p]? = some (.cells #[u0, .int .i64 D.opened.l0, u1, .int .i64 D.opened.l1, .int .i64 D.opened.due, .int .i64 kp, .pointer (some ⟨w3.heap.size, 0, none⟩)] 177) ∧ W.heap[w3.heap.size]? = some (.cells #[.pointer (some ⟨p, 0, none⟩), .int .i64 kk, .int .i64 S.gen, .int .i64 S.term, .int .i64 S.vote, .int .i64 S.base, .int .i64 S.bterm, .string S.data, lv] 182) ∧ w3.turned W (fun x => x = p)) ⟨fun k hk hkp => (Below.heap_alloc _ _ _ (by rw [hns]; exact hk)).trans (Below.heap_setCell _ _ _ _ hkp), (Below.heap_alloc _ _ _ (by rw [hns]; exact hp3)).trans (cells_set HD3.out.blk _), Hp.new hns.symm, (turned_set (S := fun x => x = p) (World.turned.refl _ _) rfl _).alloc _⟩ ?_
  rintro W ⟨hk, hp, hj, ht⟩
  go_ret2
  have hlp : ∀ x, lv.ownBlock = some x → ¬ footD p u0 u1 x := fun x hx hf => by have := HLB.out x hx; have := hft x hf; omega
  have hlj : lv.ownBlock ≠ some w3.heap.size := fun e => by have := HL3.out.lt e; omega
  have hD : DiskAt W p u0 u1 (some w3.heap.size) kp D.opened :=
    ⟨hp, HD3.out.kq, HD3.out.kb, HD3.out.db, HD3.out.o0.keep fun k e => hk k (HD3.out.o0.lt e).2 (fun e' => HD3.out.n0 (e' ▸ e)), HD3.out.o1.keep fun k e => hk k (HD3.out.o1.lt e).2 (fun e' => HD3.out.n1 (e' ▸ e)), HD3.out.n0, HD3.out.n1, HD3.out.dis, HD3.out.fit, fun j' hj' => by
      injection hj' with e
      subst e
      exact ⟨fun e => by omega, fun e => hfj (.inr (.inl e)), fun e => hfj (.inr (.inr e)), _, rfl, hj⟩⟩
  have hS : StaAt W w3.heap.size 2 [.pointer (some ⟨p, 0, none⟩), .int .i64 kk] 182 lv S :=
    ⟨hj, rfl, (ownL_eq HL3.out (by rw [HS.out])).keep fun k e => hk k (HL3.out.lt e) (fun e' => hlp k e (.inl e')), hlj⟩
  have hT : w.turned W (fun x => x = p ∨ J = some x) := ((HT1.out.trans HT2.out fun _ _ h => .inl h).trans (World.turned.of_below HB3.out (fun _ => False)) fun _ _ h => h.elim).trans ht fun _ _ h => .inl h
  refine ⟨w3.heap.size, u0, u1, lv, rfl, ⟨hD, ?_, hlp⟩, ?_, ?_, ?_, hT⟩
  · rw [HF.out, ← HKK.out, ← HS.out]; exact hS
  · have := HT1.out.size; have := HT2.out.size; omega
  · rintro x (hx | rfl | hx)
    · rcases (HF2.out x hx).1 with h | h
      · exact .inl h
      · exact .inr (Nat.le_trans HT1.out.size h)
    · right; have := HT1.out.size; have := HT2.out.size; omega
    · right; have := HT1.out.size; have := HT2.out.size; have := HLB.out x hx; omega
  · intro i hi
    have h1 := HJ1.out i hi
    have hi1 := (Array.getElem?_eq_some_iff.1 h1).1
    have hip : i ≠ p := by obtain ⟨a, _⟩ := H.out.jb i hi; exact a
    have h2 := HT2.out.block i hi1 hip
    have h3 := HB3.out.block i (by have := HT2.out.size; omega)
    exact (hk i (by have := HT2.out.size; omega) hip).trans (h3.trans (h2.trans h1))
end Go.Proofs.Ytcbbnmodjnnbeaa
