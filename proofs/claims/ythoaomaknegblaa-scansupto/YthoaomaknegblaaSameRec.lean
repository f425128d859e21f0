/- The law's own comparison of two lists: sameRecords. -/
import Derived.Test.YthoaomaknegblaaMarks
import Derived.Test.YthoaomaknegblaaScanP
import Derived.BigQuiet
set_option linter.unusedSimpArgs false
set_option linter.unusedVariables false
namespace Go.Proofs.Ythoaomaknegblaa
open Go.RowKit

theorem Rec.off {w : World} {b p : Nat} {r : Rec} (h : w.rangeAt b p r.cells) :
    w.cell? ⟨b, p, none⟩ = some (.int .i64 r.kind) ∧ w.cell? ⟨b, p + 1, none⟩ = some (.int .i64 r.gen) ∧ w.cell? ⟨b, p + 2, none⟩ = some (.int .i64 r.index) ∧ w.cell? ⟨b, p + 3, none⟩ = some (.int .i64 r.term) ∧ w.cell? ⟨b, p + 4, none⟩ = some (.int .i64 r.vote) ∧ w.cell? ⟨b, p + 5, none⟩ = some (.int .i64 r.many) ∧ w.cell? ⟨b, p + 6, none⟩ = some (.int .i64 r.cmd.kind) ∧ w.cell? ⟨b, p + 7, none⟩ = some (.string r.cmd.key) ∧ w.cell? ⟨b, p + 8, none⟩ = some (.string r.cmd.val) ∧ w.cell? ⟨b, p + 9, none⟩ = some (.string r.cmd.old) ∧ w.cell? ⟨b, p + 10, none⟩ = some (.int .i64 r.cmd.rev) ∧ w.cell? ⟨b, p + 11, none⟩ = some (.int .i64 r.cmd.ses) ∧ w.cell? ⟨b, p + 12, none⟩ = some (.int .i64 r.cmd.seq) ∧ w.cell? ⟨b, p + 13, none⟩ = some (.string r.data) :=
  ⟨h 0 _ rfl, h 1 _ rfl, h 2 _ rfl, h 3 _ rfl, h 4 _ rfl, h 5 _ rfl, h 6 _ rfl, h 7 _ rfl, h 8 _ rfl, h 9 _ rfl, h 10 _ rfl, h 11 _ rfl, h 12 _ rfl, h 13 _ rfl⟩
theorem Rec.at_reads {w : World} {a : Option Addr} {n cap : Nat} {rs : List Rec} (h : w.reads 14 (.slice a n cap) (rs.map Rec.cells)) {k : Nat} (hk : k < rs.length) : ∃ g o, a = some ⟨g, o, none⟩ ∧ g < w.heap.size ∧ w.rangeAt g (o + k * 14) rs[k].cells := by
  rcases h with ⟨_, h2⟩ | ⟨g, off, cap', hv, hg, hc⟩
  · have : rs = [] := by simpa using h2
    subst this; simp at hk
  · injection hv with h1 h2 h3
    exact ⟨g, off, h1, hg, (hc k rs[k].cells (by rw [List.getElem?_map, List.getElem?_eq_getElem hk]; rfl)).2⟩
set_option maxRecDepth 100000 in
set_option maxHeartbeats 1000000 in
theorem sameRecords_same (a1 a2 : Option Addr) (c1 c2 : Nat) (rs : List Rec) (w : World) (hn : rs.length ≤ 281474976710656) (h1 : w.reads 14 (.slice a1 rs.length c1) (rs.map Rec.cells)) (h2 : w.reads 14 (.slice a2 rs.length c2) (rs.map Rec.cells)) :
    Calls Try.prog 18 #[.slice a1 rs.length c1, .slice a2 rs.length c2] w fun e w' => e = .returned (.bool true) ∧ ∃ n, w' = w.drewN n := by
  have heqn := neq_rec
  go_enter Try.func18, Try.ntmps18
  go_wp2
  go_loopw [5] (fun i wr => ∃ k : Nat, k ≤ rs.length ∧ i = .int .i64 k ∧ ∃ n, wr = w.drewN n) (fun i _ => rs.length - (intOf i).toNat)
  case atStart => exact ⟨0, Nat.zero_le _, rfl, 0, rfl⟩
  case round =>
    obtain ⟨k, hk, rfl, n, rfl⟩ := hrel
    by_cases hlt : k < rs.length
    · obtain ⟨g1, o1, rfl, hg1, hr1⟩ := Rec.at_reads h1 hlt
      obtain ⟨g2, o2, rfl, hg2, hr2⟩ := Rec.at_reads h2 hlt
      generalize rs[k] = c at hr1 hr2
      obtain ⟨x0, x1, x2, x3, x4, x5, x6, x7, x8, x9, x10, x11, x12, x13⟩ := Rec.off hr1
      obtain ⟨y0, y1, y2, y3, y4, y5, y6, y7, y8, y9, y10, y11, y12, y13⟩ := Rec.off hr2
      have hcc : Rec.same c c = true := (Rec.same_iff c c).2 rfl
      clear hr1 hr2 h1 h2
      go_wp2
      go_quiet (fail)
      go_wp2
      exact ⟨⟨k + 1, by omega, val_int (by omega), n + nq, rfl⟩, by simp [intOf]; omega⟩
    · have hkk : k = rs.length := by omega
      subst hkk
      go_wp2
      go_ret
      exact ⟨rfl, n, rfl⟩
end Go.Proofs.Ythoaomaknegblaa
