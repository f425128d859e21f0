/- The law's own comparison of two lists: sameCommands. -/
import Derived.Test.YtcbbnmodjnnbeaaMarks
import Derived.BigQuiet
set_option linter.unusedSimpArgs false
set_option linter.unusedVariables false
namespace Go.Proofs.Ytcbbnmodjnnbeaa
open Go.RowKit

theorem Cmd.off {w : World} {b p : Nat} {r : Cmd} (h : w.rangeAt b p r.cells) :
    w.cell? ⟨b, p, none⟩ = some (.int .i64 r.kind) ∧ w.cell? ⟨b, p + 1, none⟩ = some (.string r.key) ∧ w.cell? ⟨b, p + 2, none⟩ = some (.string r.val) ∧ w.cell? ⟨b, p + 3, none⟩ = some (.string r.old) ∧ w.cell? ⟨b, p + 4, none⟩ = some (.int .i64 r.rev) ∧ w.cell? ⟨b, p + 5, none⟩ = some (.int .i64 r.ses) ∧ w.cell? ⟨b, p + 6, none⟩ = some (.int .i64 r.seq) :=
  ⟨h 0 _ rfl, h 1 _ rfl, h 2 _ rfl, h 3 _ rfl, h 4 _ rfl, h 5 _ rfl, h 6 _ rfl⟩
theorem Cmd.at_reads {w : World} {a : Option Addr} {n cap : Nat} {rs : List Cmd} (h : w.reads 7 (.slice a n cap) (rs.map Cmd.cells)) {k : Nat} (hk : k < rs.length) : ∃ g o, a = some ⟨g, o, none⟩ ∧ g < w.heap.size ∧ w.rangeAt g (o + k * 7) rs[k].cells := by
  rcases h with ⟨_, h2⟩ | ⟨g, off, cap', hv, hg, hc⟩
  · have : rs = [] := by simpa using h2
    subst this; simp at hk
  · injection hv with h1 h2 h3
    exact ⟨g, off, h1, hg, (hc k rs[k].cells (by rw [List.getElem?_map, List.getElem?_eq_getElem hk]; rfl)).2⟩
set_option maxRecDepth 100000 in
set_option maxHeartbeats 1000000 in
theorem sameCommands_same (a1 a2 : Option Addr) (c1 c2 : Nat) (rs : List Cmd) (w : World) (hn : rs.length ≤ 281474976710656) (h1 : w.reads 7 (.slice a1 rs.length c1) (rs.map Cmd.cells)) (h2 : w.reads 7 (.slice a2 rs.length c2) (rs.map Cmd.cells)) :
    Calls Try.prog 64 #[.slice a1 rs.length c1, .slice a2 rs.length c2] w fun e w' => e = .returned (.bool true) ∧ ∃ n, w' = w.drewN n := by
  have heqn := neq_cmd
  go_enter Try.func64, Try.ntmps64
  go_wp2
  go_loopw [5] (fun i wr => ∃ k : Nat, k ≤ rs.length ∧ i = .int .i64 k ∧ ∃ n, wr = w.drewN n) (fun i _ => rs.length - (intOf i).toNat)
  case atStart => exact ⟨0, Nat.zero_le _, rfl, 0, rfl⟩
  case round =>
    obtain ⟨k, hk, rfl, n, rfl⟩ := hrel
    by_cases hlt : k < rs.length
    · obtain ⟨g1, o1, rfl, hg1, hr1⟩ := Cmd.at_reads h1 hlt
      obtain ⟨g2, o2, rfl, hg2, hr2⟩ := Cmd.at_reads h2 hlt
      generalize rs[k] = c at hr1 hr2
      obtain ⟨x0, x1, x2, x3, x4, x5, x6⟩ := Cmd.off hr1
      obtain ⟨y0, y1, y2, y3, y4, y5, y6⟩ := Cmd.off hr2
      have hcc : Cmd.same c c = true := (Cmd.same_iff c c).2 rfl
      clear hr1 hr2 h1 h2
      go_wp2
      go_quiet (fail)
      go_wp2
      exact ⟨⟨k + 1, by omega, val_int (by omega), n + nq, rfl⟩, by simp [intOf]; omega⟩
    · have hkk : k = rs.length := by omega
      subst hkk
      go_wp2
      go_ret
      exact ⟨rfl, n, rfl⟩
end Go.Proofs.Ytcbbnmodjnnbeaa
