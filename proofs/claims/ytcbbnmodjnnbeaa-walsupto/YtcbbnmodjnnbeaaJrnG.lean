/- The document's Journal and based. -/
import Derived.Test.YtcbbnmodjnnbeaaJrnD
import Derived.Test.YtcbbnmodjnnbeaaDecRef3
import Derived.Test.YtcbbnmodjnnbeaaJrnA
import Derived.Test.YtcbbnmodjnnbeaaRefScan
import Derived.Deep.RegionHeld3
set_option linter.unusedSimpArgs false
set_option linter.unusedVariables false
namespace Go.Proofs.Ytcbbnmodjnnbeaa
open Go.RowKit

theorem jrnL_snoc (l : List Rec) (r : Rec) : jrnL (l ++ [r]) = jrnL l ++ (be 3 (encL r).length ++ encL r) := by rw [jrnL_append, jrnL_one]; rfl
set_option maxRecDepth 100000 in
set_option maxHeartbeats 4000000 in
theorem refJournal (a : Option Addr) (cap : Nat) (rs : List Rec) (w : World) (hm : ∀ r ∈ rs, r.may = true) (hn : rs.length ≤ 100000000000) (hl : (jrnL rs).length ≤ 100000000) (hr : rs ≠ [] → w.reads 14 (.slice a rs.length cap) (rs.map Rec.cells)) :
    Calls Try.prog 129 #[.slice a rs.length cap] w fun e w' => e = .returned (.string (B (jrnL rs))) ∧ Below w.heap.size w w' := by
  go_enter Try.func129, Try.ntmps129
  go_wp2_with fail
  go_loopw [3, 4] (fun sv iv wr => ∃ k : Nat, k ≤ rs.length ∧ iv = .int .i64 k ∧ sv = .string (B (jrnL (rs.take k))) ∧ Below w.heap.size w wr) (fun _ iv _ => rs.length - (intOf iv).toNat)
  case atStart => exact ⟨0, Nat.zero_le _, rfl, rfl, Below.refl _ _⟩
  case round =>
    obtain ⟨k, hk, rfl, rfl, hb⟩ := hrel
    by_cases hlt : k < rs.length
    · have hne : rs ≠ [] := fun e => by rw [e] at hlt; simp at hlt
      have hrr : wr.reads 14 (.slice a rs.length cap) (rs.map Rec.cells) := (hr hne).keep fun k hk => hb.block k (reads_lt (hr hne) hk)
      obtain ⟨g1, o1, rfl, hg1, hr1⟩ := Rec.at_reads hrr hlt
      have HSN : Hid (rs.take (k + 1) = rs.take k ++ [rs[k]]) := by show _ = _; rw [List.take_succ_eq_append_getElem hlt]
      have HMK : Hid (rs[k].may = true) := hm _ (List.getElem_mem hlt)
      have hle := jrnL_take_le rs (k + 1)
      rw [HSN.out, jrnL_snoc] at hle
      simp only [List.length_append, be_length] at hle
      generalize rs[k] = c at hr1 HSN HMK hle
      obtain ⟨x0, x1, x2, x3, x4, x5, x6, x7, x8, x9, x10, x11, x12, x13⟩ := Rec.off hr1
      obtain ⟨s, hs⟩ : ∃ s, s = jrnL (rs.take k) := ⟨_, rfl⟩
      rw [← hs] at hle
      have HSL : Hid (s.length + (encL c).length + 3 ≤ 100000000 ∧ (encL c).length < 16777216) := ⟨by omega, encL_lt c HMK.out⟩
      have HS : Hid (s = jrnL (rs.take k)) := hs
      rw [← hs]
      clear hr1 hr hrr hle hs hm
      have hbs := hb.size
      go_wp2_with (first | (go_at_call 15; refine (refEncodeAny' _ _ _ _ _ _ _ _ _ _ _ _ _ _ _).mono ?_; rintro e w1 ⟨t, er, rfl, henc, hb1⟩; obtain ⟨y1, rfl⟩ := Below.ext hb1; clear hb1) | fail)
      have he : (t, er) = (B (encL c), (0 : Int)) := by
        have h1 : (t, er) = encR c := henc.out
        rw [h1]; unfold encR; rw [if_pos HMK.out]
      injection he with e1 e2
      subst e1 e2
      clear henc
      refine (num3 _ _ (by rw [B_size]; omega) (by rw [B_size]; have := HSL.out; omega)).mono ?_
      rintro e w2 ⟨rfl, hb2⟩
      have hb3 : Below w.heap.size w w2 := (Gr.ext hb y1).trans (hb2.mono (by simp [go_sem]; omega))
      have hbl1 : s.length + 3 + (encL c).length ≤ 9223372036854775807 := by have := HSL.out; omega
      have hbl2 : s.length + 3 ≤ 9223372036854775807 := by omega
      have HB3 : Hid (Below w.heap.size w w2) := hb3
      clear hb2 hb3 hb
      go_wp2_with fail
      exact ⟨⟨k + 1, by omega, val_int (by omega), by rw [HSN.out, jrnL_snoc, ← HS.out], HB3.out⟩, by simp [intOf]; omega⟩
    · have hkk : k = rs.length := by omega
      subst hkk
      go_wp2_with fail
      go_ret
      rw [List.take_length]
      exact ⟨rfl, hb⟩
set_option maxRecDepth 100000 in
set_option maxHeartbeats 4000000 in
theorem refBased (a : Option Addr) (cap : Nat) (rs : List Rec) (w : World) (hn : rs.length ≤ 100000000000) (hr : rs ≠ [] → w.reads 14 (.slice a rs.length cap) (rs.map Rec.cells)) :
    Calls Try.prog 128 #[.slice a rs.length cap] w fun e w' => e = .returned (.int .i64 (basedN rs)) ∧ w' = w := by
  cases rs with
  | nil =>
    go_enter Try.func128, Try.ntmps128
    go_wp2_with fail
    go_ret
    exact ⟨rfl, rfl⟩
  | cons r rest =>
    have hrr := hr (List.cons_ne_nil _ _)
    have HRR : Hid (w.reads 14 (.slice a (r :: rest).length cap) ((r :: rest).map Rec.cells)) := hrr
    obtain ⟨g1, o1, rfl, hg1, hr1⟩ := Rec.at_reads hrr (k := 0) (by simp)
    have hr2 : w.rangeAt g1 (o1 + 0 * 14) r.cells := hr1
    obtain ⟨x0, x1, x2, x3, x4, x5, x6, x7, x8, x9, x10, x11, x12, x13⟩ := Rec.off hr2
    simp only [Nat.zero_mul, Nat.add_zero] at x0 x1 x5
    have HNN : Hid (rest.length + 1 ≤ 100000000000) := by show _ ≤ _; simpa using hn
    obtain ⟨n, hnl⟩ : ∃ n, n = rest.length := ⟨_, rfl⟩
    have HNL : Hid (n = rest.length) := hnl
    simp only [List.length_cons]
    rw [← hnl]
    have hn1 : n + 1 ≤ 100000000000 := by rw [hnl]; exact HNN.out
    clear hr hrr hr1 hr2 x2 x3 x4 x6 x7 x8 x9 x10 x11 x12 x13 hn hnl
    by_cases hk : r.kind = 1
    · by_cases hmn : r.many ≤ n
      · have e1 : (r.kind != 1) = false := by rw [hk]; rfl
        have e2 : decide ((n : Int) + 1 ≤ r.many) = false := by simp; omega
        have HKM : Hid (r.kind = 1 ∧ r.many ≤ n) := ⟨hk, hmn⟩
        clear hk hmn
        go_enter Try.func128, Try.ntmps128
        go_wp2_with fail
        go_loopw [3] (fun iv wr => wr = w ∧ ∃ k : Nat, k ≤ n ∧ iv = .int .i64 ((k + 1 : Nat) : Int) ∧ Hid (∀ x ∈ rest.take k, x.kind ≠ 1)) (fun iv _ => n + 1 - (intOf iv).toNat)
        case atStart => exact ⟨rfl, 0, Nat.zero_le _, rfl, fun x hx => by simp at hx⟩
        case round =>
          obtain ⟨rfl, k, hk, rfl, HM⟩ := hrel
          by_cases hlt : k < n
          · have hlt' : k < rest.length := by rw [← HNL.out]; exact hlt
            obtain ⟨g2, o2, hg, hg2, hr1⟩ := Rec.at_reads HRR.out (k := k + 1) (by simp; exact hlt')
            have eg : g2 = g1 ∧ o2 = o1 := by
              injection hg with h; injection h with h1 h2; exact ⟨h1.symm, h2.symm⟩
            obtain ⟨rfl, rfl⟩ := eg
            have hr2 : wr.rangeAt g2 (o2 + (k + 1) * 14) rest[k].cells := hr1
            have HSN : Hid (rest.take (k + 1) = rest.take k ++ [rest[k]]) := by show _ = _; rw [List.take_succ_eq_append_getElem hlt']
            have HIN : Hid (rest[k] ∈ rest) := List.getElem_mem hlt'
            clear hr1 hg
            generalize rest[k] = c at hr2 HSN HIN
            clear hlt'
            obtain ⟨y0, y1, y2, y3, y4, y5, y6, y7, y8, y9, y10, y11, y12, y13⟩ := Rec.off hr2
            clear y1 y2 y3 y4 y5 y6 y7 y8 y9 y10 y11 y12 y13 hr2
            by_cases hc : c.kind = 1
            · have e3 : (c.kind == 1) = true := by rw [hc]; rfl
              go_wp2_with fail
              go_ret
              have hb : basedN (r :: rest) = 0 := by
                unfold basedN
                rw [if_neg]
                intro h
                exact (counts_cons h).2.1 c HIN.out hc
              rw [hb]
              exact ⟨rfl, rfl⟩
            · have e3 : (c.kind == 1) = false := by rw [beq_eq_false_iff_ne]; exact hc
              have HC : Hid (c.kind ≠ 1) := hc
              clear hc
              go_wp2_with fail
              refine ⟨⟨trivial, k + 1, by omega, val_int (by omega), ?_⟩, by simp [intOf]; omega⟩
              show ∀ x ∈ _, _
              rw [HSN.out]
              intro x hx
              rcases List.mem_append.1 hx with h | h
              · exact HM.out x h
              · rw [List.mem_singleton.1 h]; exact HC.out
          · have hkn : k = n := by omega
            subst hkn
            go_wp2_with fail
            go_ret
            have hM := HM.out
            rw [HNL.out, List.take_length] at hM
            have hb : basedN (r :: rest) = r.gen := by
              unfold basedN
              rw [if_pos (counts_mk HKM.out.1 hM (by rw [← HNL.out]; exact HKM.out.2))]
              rfl
            rw [hb]
            exact ⟨rfl, rfl⟩
      · have e1 : (r.kind != 1) = false := by rw [hk]; rfl
        have e2 : decide ((n : Int) + 1 ≤ r.many) = true := by simp; omega
        have hb : basedN (r :: rest) = 0 := by
          unfold basedN
          rw [if_neg]
          intro h
          have := (counts_cons h).2.2
          rw [← HNL.out] at this
          omega
        rw [hb]
        clear hk hmn hb
        go_enter Try.func128, Try.ntmps128
        go_wp2_with fail
        go_ret
        exact ⟨rfl, rfl⟩
    · have e1 : (r.kind != 1) = true := by rw [bne_iff_ne]; exact hk
      have hb : basedN (r :: rest) = 0 := by
        unfold basedN
        rw [if_neg]
        intro h
        exact hk (counts_cons h).1
      rw [hb]
      clear hk hb
      go_enter Try.func128, Try.ntmps128
      go_wp2_with fail
      go_ret
      exact ⟨rfl, rfl⟩
end Go.Proofs.Ytcbbnmodjnnbeaa
/- A disk and its journals: what both sides keep; plain. -/
set_option linter.unusedSimpArgs false
set_option linter.unusedVariables false
namespace Go.Proofs.Ytcbbnmodjnnbeaa

/-! ### Calm disks -/
theorem Dk.act_cases (D : Dk) : (D.act.1 = false ∧ D.due = 1 ∧ D.act.2 = D.crash D.keep) ∨ (D.act.1 = true ∧ ∃ n, n ≤ D.due ∧ D.act.2 = { D with due := n }) := by
  unfold Dk.act
  by_cases h0 : D.due = 0
  · rw [if_pos h0]; exact .inr ⟨rfl, D.due, Nat.le_refl _, rfl⟩
  · rw [if_neg h0]
    by_cases h1 : D.due = 1
    · rw [if_pos h1]; exact .inl ⟨rfl, h1, rfl⟩
    · rw [if_neg h1]; exact .inr ⟨rfl, D.due - 1, by omega, rfl⟩
/-- Calm but for file k. -/
structure Dk.Calm1 (D : Dk) (k : Nat) : Prop where
  fit : D.Fit
  c0 : k ≠ 0 → D.l0 = D.b0.length
  c1 : k = 0 → D.l1 = D.b1.length
theorem Dk.Calm.calm1 {D : Dk} (h : D.Calm) (k : Nat) : D.Calm1 k := ⟨h.fit, fun _ => h.c0, fun _ => h.c1⟩
theorem Dk.Calm1.app {D : Dk} {k : Nat} (h : D.Calm1 k) (l : List UInt8) : (D.app k l).Calm1 k := by
  refine ⟨h.fit.app k l, fun hk => ?_, fun hk => ?_⟩
  · unfold Dk.app; rw [if_neg hk]; exact h.c0 hk
  · unfold Dk.app; rw [if_pos hk]; exact h.c1 hk
theorem Dk.Calm1.sync {D : Dk} {k : Nat} (h : D.Calm1 k) : (D.sync k).2.Calm := by
  unfold Dk.sync
  rcases D.act_cases with ⟨h1, -, h2⟩ | ⟨h1, n, -, h2⟩
  · rw [if_neg (by rw [h1]; decide), h2]; exact h.fit.crash _
  · rw [if_pos h1, h2]
    unfold Dk.last
    by_cases hk : k = 0
    · simp only [if_pos hk]; exact ⟨rfl, h.c1 hk⟩
    · simp only [if_neg hk]; exact ⟨h.c0 hk, rfl⟩
theorem Dk.Calm1.act {D : Dk} {k : Nat} (h : D.Calm1 k) : (D.act.1 = false → D.act.2.Calm) ∧ (D.act.1 = true → D.act.2.Calm1 k) := by
  rcases D.act_cases with ⟨h1, -, h2⟩ | ⟨h1, n, -, h2⟩
  · exact ⟨fun _ => (by rw [h2]; exact h.fit.crash _), (fun e => by rw [h1] at e; cases e)⟩
  · exact ⟨(fun e => by rw [h1] at e; cases e), fun _ => by rw [h2]; exact ⟨⟨h.fit.f0, h.fit.f1⟩, h.c0, h.c1⟩⟩
theorem Dk.Calm1.write {D : Dk} {k : Nat} (h : D.Calm1 k) (l : List UInt8) : (D.write k l).2.Calm := by
  have h1 := (h.app l).act
  unfold Dk.write
  cases hb : (D.app k l).act.1 with
  | true => rw [if_pos rfl]; exact (h1.2 hb).sync
  | false => rw [if_neg (by decide)]; exact h1.1 hb
theorem Dk.Calm.write {D : Dk} (h : D.Calm) (k : Nat) (l : List UInt8) : (D.write k l).2.Calm := (h.calm1 k).write l
theorem Dk.Calm.cut {D : Dk} (h : D.Calm) (k : Nat) : (D.cut k).2.Calm := by
  unfold Dk.cut
  rcases D.act_cases with ⟨h1, -, h2⟩ | ⟨h1, n, -, h2⟩
  · rw [if_neg (by rw [h1]; decide), h2]; exact h.fit.crash _
  · rw [if_pos h1, h2]
    unfold Dk.clr
    by_cases hk : k = 0
    · simp only [if_pos hk]; exact ⟨rfl, h.c1⟩
    · simp only [if_neg hk]; exact ⟨h.c0, rfl⟩
theorem Dk.Calm.rewrite {D : Dk} (h : D.Calm) (k : Nat) (l : List UInt8) : (D.rewrite k l).2.Calm := by
  unfold Dk.rewrite
  split
  · exact (h.cut k).write k l
  · exact h.cut k
theorem Dk.Calm.set {D : Dk} (h : D.Calm) (k : Nat) (b : List UInt8) : (D.set k b).Calm := by
  unfold Dk.set
  split
  · exact ⟨rfl, h.c1⟩
  · exact ⟨h.c0, rfl⟩
theorem Dk.Calm.due {D : Dk} (h : D.Calm) (n : Nat) (kp : Int) : ({ D with due := n, keep := kp } : Dk).Calm := ⟨h.c0, h.c1⟩

/-! ### How long the files are -/
structure Dk.Le (D : Dk) (m : Nat) : Prop where
  e0 : D.b0.length ≤ m
  e1 : D.b1.length ≤ m
theorem Dk.Le.up {D : Dk} {m n : Nat} (h : D.Le m) (hn : m ≤ n) : D.Le n := ⟨Nat.le_trans h.e0 hn, Nat.le_trans h.e1 hn⟩
theorem Dk.Le.file {D : Dk} {m : Nat} (h : D.Le m) (k : Nat) : (D.file k).length ≤ m := by
  unfold Dk.file; split
  · exact h.e0
  · exact h.e1
theorem Dk.Le.crash {D : Dk} {m : Nat} (h : D.Le m) (keep : Int) : (D.crash keep).Le m := by
  refine ⟨?_, ?_⟩
  · simp only [Dk.crash, List.length_take]; have := h.e0; omega
  · simp only [Dk.crash, List.length_take]; have := h.e1; omega
theorem Dk.Le.act {D : Dk} {m : Nat} (h : D.Le m) : D.act.2.Le m := by
  rcases D.act_cases with ⟨_, -, h2⟩ | ⟨_, n, -, h2⟩
  · rw [h2]; exact h.crash _
  · rw [h2]; exact ⟨h.e0, h.e1⟩
theorem Dk.Le.app {D : Dk} {m : Nat} (h : D.Le m) (k : Nat) (l : List UInt8) : (D.app k l).Le (m + l.length) := by
  unfold Dk.app; split
  · exact ⟨by simp only [List.length_append]; have := h.e0; omega, by have := h.e1; simp only; omega⟩
  · exact ⟨by have := h.e0; simp only; omega, by simp only [List.length_append]; have := h.e1; omega⟩
theorem Dk.Le.sync {D : Dk} {m : Nat} (h : D.Le m) (k : Nat) : (D.sync k).2.Le m := by
  have h1 := h.act
  unfold Dk.sync
  split
  · unfold Dk.last; split <;> exact ⟨h1.e0, h1.e1⟩
  · exact h1
theorem Dk.Le.cut {D : Dk} {m : Nat} (h : D.Le m) (k : Nat) : (D.cut k).2.Le m := by
  have h1 := h.act
  unfold Dk.cut
  split
  · unfold Dk.clr; split
    · exact ⟨Nat.zero_le _, h1.e1⟩
    · exact ⟨h1.e0, Nat.zero_le _⟩
  · exact h1
theorem Dk.Le.write {D : Dk} {m : Nat} (h : D.Le m) (k : Nat) (l : List UInt8) : (D.write k l).2.Le (m + l.length) := by
  have h1 := (h.app k l).act
  unfold Dk.write
  split
  · exact h1.sync k
  · exact h1
theorem Dk.Le.rewrite {D : Dk} {m : Nat} (h : D.Le m) (k : Nat) (l : List UInt8) : (D.rewrite k l).2.Le (m + l.length) := by
  unfold Dk.rewrite
  split
  · exact (h.cut k).write k l
  · exact (h.cut k).up (by omega)
theorem Dk.Le.set {D : Dk} {m : Nat} (h : D.Le m) (k : Nat) (b : List UInt8) (hb : b.length ≤ m) : (D.set k b).Le m := by
  unfold Dk.set; split
  · exact ⟨hb, h.e1⟩
  · exact ⟨h.e0, hb⟩
theorem scanA_jle (l : List UInt8) : (jrnL (scanA l).1).length ≤ l.length := by
  have h1 := congrArg List.length (scanA_back l).1
  rw [List.length_append] at h1
  omega
theorem found_le {D : Dk} {m : Nat} (h : D.Le m) (hm : 100 ≤ m) : (jrnL D.found.2).length ≤ m := by
  have a := scanA_jle D.b0
  have b := scanA_jle D.b1
  have c := h.e0
  have d := h.e1
  have e := jrn_begin
  unfold Dk.found
  split
  · split
    · exact Nat.le_trans b d
    · exact Nat.le_trans a c
  · split
    · exact Nat.le_trans b d
    · exact Nat.le_trans e hm
theorem Dk.Le.opened {D : Dk} {m : Nat} (h : D.Le m) (hm : 100 ≤ m) : D.opened.Le m := h.set _ _ (found_le h hm)
theorem Dk.Le.due {D : Dk} {m : Nat} (h : D.Le m) (n : Nat) (kp : Int) : ({ D with due := n, keep := kp } : Dk).Le m := ⟨h.e0, h.e1⟩
theorem jrnL_len (rs : List Rec) : 3 * rs.length ≤ (jrnL rs).length := by
  induction rs with
  | nil => exact Nat.zero_le _
  | cons r rs ih => rw [jrnL_cons, List.length_append, List.length_cons]; simp only [oneL, List.length_append, be_length]; omega

/-! ### A journal that is not over -/
structure Liv (D : Dk) (k : Nat) (S : WSt) (rs : List Rec) : Prop where
  file : D.file k = jrnL rs
  may : ∀ r ∈ rs, r.may = true
  cnt : countsB rs = true
  told : S = told rs
theorem Liv.scan {D : Dk} {k : Nat} {S : WSt} {rs : List Rec} (h : Liv D k S rs) : scanA (D.file k) = (rs, []) := by rw [h.file]; exact scanA_jrn rs h.may
theorem Liv.cons {D : Dk} {k : Nat} {S : WSt} {rs : List Rec} (h : Liv D k S rs) : ∃ r l, rs = r :: l ∧ r.kind = 1 ∧ (∀ x ∈ l, x.kind ≠ 1) := by
  have hc := h.cnt
  cases rs with
  | nil => cases hc
  | cons r l => exact ⟨r, l, rfl, (counts_cons hc).1, (counts_cons hc).2.1⟩
theorem Liv.gen {D : Dk} {k : Nat} {S : WSt} {rs : List Rec} (h : Liv D k S rs) : 1 ≤ S.gen ∧ S.gen ≤ 1000000 ∧ 0 ≤ S.base ∧ S.base ≤ 1000000 := by
  obtain ⟨r, l, rfl, hk, _⟩ := h.cons
  have hm := h.may r (by simp)
  have e1 : S.gen = r.gen := by rw [h.told]; exact told_gen r l
  have e2 : S.base = r.index := by rw [h.told]; exact ((WSt.ofBase r).takes_base l).1
  simp [Rec.may, hk, numB] at hm
  rw [e1, e2]
  omega
theorem Liv.len {D : Dk} {k : Nat} {S : WSt} {rs : List Rec} (h : Liv D k S rs) {m : Nat} (hm : D.Le m) : S.log.length ≤ m ∧ rs.length ≤ m := by
  have h1 := hm.file k
  rw [h.file] at h1
  have h2 := jrnL_len rs
  have h3 := told_len rs
  rw [h.told]
  omega
theorem Dk.write_file {D : Dk} {k : Nat} {l : List UInt8} (hk : k = 0 ∨ k = 1) (h : (D.write k l).1 = true) : (D.write k l).2.file k = D.file k ++ l := by
  unfold Dk.write at h ⊢
  cases hb : (D.app k l).act.1 with
  | false => rw [if_neg (by rw [hb]; decide), hb] at h; cases h
  | true =>
    simp only [hb, if_pos] at h ⊢
    rcases (D.app k l).act_cases with ⟨h1, -, _⟩ | ⟨_, n, -, h2⟩
    · rw [hb] at h1; cases h1
    · rw [h2] at h ⊢
      unfold Dk.sync at h ⊢
      rcases ({ D.app k l with due := n } : Dk).act_cases with ⟨h3, -, _⟩ | ⟨h3, n', -, h4⟩
      · rw [if_neg (by rw [h3]; decide), h3] at h; cases h
      · rw [if_pos h3, h4]
        rcases hk with rfl | rfl <;> rfl
theorem Dk.rewrite_file {D : Dk} {k : Nat} {l : List UInt8} (hk : k = 0 ∨ k = 1) (h : (D.rewrite k l).1 = true) : (D.rewrite k l).2.file k = l := by
  unfold Dk.rewrite at h ⊢
  cases hb : (D.cut k).1 with
  | false => rw [if_neg (by rw [hb]; decide), hb] at h; cases h
  | true =>
    simp only [hb, if_pos] at h ⊢
    rw [Dk.write_file hk h, List.eq_nil_of_length_eq_zero (Dk.cut_file hb), List.nil_append]
theorem Liv.write {D : Dk} {k : Nat} {S : WSt} {rs : List Rec} (h : Liv D k S rs) (hk : k = 0 ∨ k = 1) {l : List Rec} (hm : (l.all fun x => x.may) = true) (hb : (l.any fun x => x.kind == 1) = false) (hw : (D.write k (jrnL l)).1 = true) : Liv (D.write k (jrnL l)).2 k (S.takes l) (rs ++ l) := by
  obtain ⟨r, t, hrt, _, _⟩ := h.cons
  refine ⟨by rw [Dk.write_file hk hw, h.file, jrnL_append], fun x hx => ?_, counts_append h.cnt fun x hx => ?_, ?_⟩
  · rcases List.mem_append.1 hx with hx | hx
    · exact h.may x hx
    · exact List.all_eq_true.1 hm x hx
  · have := List.any_eq_false.1 hb x hx
    simpa using this
  · rw [told_append _ _ (by rw [hrt]; exact List.cons_ne_nil _ _), h.told]
theorem Liv.rewrite {D : Dk} {k : Nat} (hk : k = 0 ∨ k = 1) {N : WSt} (hm : (N.recs.all fun x => x.may) = true) (hw : (D.rewrite k (jrnL N.recs)).1 = true) : Liv (D.rewrite k (jrnL N.recs)).2 k N N.recs :=
  ⟨Dk.rewrite_file hk hw, List.all_eq_true.1 hm, N.recs_counts, (told_recs N).symm⟩
theorem Liv.opened (D : Dk) : Liv D.opened D.found.1 (Go.Proofs.Ytcbbnmodjnnbeaa.told D.found.2) D.found.2 := by
  obtain ⟨a, b, c⟩ := D.found_ok
  refine ⟨?_, b, a, rfl⟩
  unfold Dk.opened Dk.set Dk.file
  rcases c with c | c
  · rw [c]; rfl
  · rw [c]; rfl
theorem Liv.due {D : Dk} {k : Nat} {S : WSt} {rs : List Rec} (h : Liv D k S rs) (n : Nat) (kp : Int) : Liv { D with due := n, keep := kp } k S rs := ⟨h.file, h.may, h.cnt, h.told⟩
end Go.Proofs.Ytcbbnmodjnnbeaa
/- The document's journals: their cells; Scan of a file. -/
set_option linter.unusedSimpArgs false
set_option linter.unusedVariables false
namespace Go.Proofs.Ytcbbnmodjnnbeaa
open Go.RowKit

theorem wal3_cells {w : World} {y : Nat} {a b c : Value} {T : TypeId} (h : w.heap[y]? = some (.cells #[a, b, c] T)) : w.cell? ⟨y, 0, none⟩ = some a ∧ w.cell? ⟨y, 1, none⟩ = some b ∧ w.cell? ⟨y, 2, none⟩ = some c ∧ ∀ o, w.frozen? ⟨y, o, none⟩ = false := by
  refine ⟨?_, ?_, ?_, fun o => by simp [World.frozen?, h]⟩
  all_goals (simp only [World.cell?, h]; rfl)
theorem bcellAt {w w1 : World} {y o : Nat} {v : Value} (hb : Below w.heap.size w w1) (hy : y < w.heap.size) (h : w.cell? ⟨y, o, none⟩ = some v) : w1.cell? ⟨y, o, none⟩ = some v := (World.cell?_of_block (a := ⟨y, o, none⟩) (hb.block y hy)).trans h
theorem tcellAt {w w1 : World} {S : Nat → Prop} {y o : Nat} {v : Value} (ht : w.turned w1 S) (hy : y < w.heap.size) (hn : ¬ S y) (h : w.cell? ⟨y, o, none⟩ = some v) : w1.cell? ⟨y, o, none⟩ = some v := (World.cell?_of_block (a := ⟨y, o, none⟩) (ht.block y hy hn)).trans h
/-- The document's Scan of what is known to be a file. -/
theorem refScanOf (l : List UInt8) (w : World) (hl : l.length ≤ 100000000) :
    Calls Try.prog 18 #[.string (B l)] w fun e w' => ∃ v, e = .returned (.tuple #[v, .int .i64 ((jrnL (scanA l).1).length : Nat)]) ∧ OwnR w' w.heap.size v (scanA l).1 ∧ Below w.heap.size w w' := by
  refine (refScan (B l) w (by rw [B_size]; exact hl)).mono ?_
  rintro e w' ⟨v, rs, m, h1, h2, rfl, ho, hb⟩
  have h3 : ScanTo l rs m := by have := h1.out; rwa [B_list] at this
  have h4 := scanA_of h3 h2.out
  have h5 := scan_len l
  rw [h4] at h5
  refine ⟨v, ?_, by rw [h4]; exact ho, hb⟩
  rw [h4, B_size]
  have h6 := h5.2.1
  have h7 := h5.1
  simp only at h6 h7 ⊢
  rw [← h6]
  rw [Int.toNat_of_nonneg (by omega)]
end Go.Proofs.Ytcbbnmodjnnbeaa
