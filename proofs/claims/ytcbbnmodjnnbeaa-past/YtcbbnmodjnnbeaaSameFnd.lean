/- The law's own comparison of two lists: sameFounds. -/
import Derived.Test.YtcbbnmodjnnbeaaMarks
import Derived.BigQuiet
set_option linter.unusedSimpArgs false
set_option linter.unusedVariables false
namespace Go.Proofs.Ytcbbnmodjnnbeaa
open Go.RowKit

theorem Fnd.off {w : World} {b p : Nat} {r : Fnd} (h : w.rangeAt b p r.cells) :
    w.cell? ⟨b, p, none⟩ = some (.string r.key) ∧ w.cell? ⟨b, p + 1, none⟩ = some (.string r.val) ∧ w.cell? ⟨b, p + 2, none⟩ = some (.int .i64 r.rev) :=
  ⟨h 0 _ rfl, h 1 _ rfl, h 2 _ rfl⟩
theorem Fnd.at_reads {w : World} {a : Option Addr} {n cap : Nat} {rs : List Fnd} (h : w.reads 3 (.slice a n cap) (rs.map Fnd.cells)) {k : Nat} (hk : k < rs.length) : ∃ g o, a = some ⟨g, o, none⟩ ∧ g < w.heap.size ∧ w.rangeAt g (o + k * 3) rs[k].cells := by
  rcases h with ⟨_, h2⟩ | ⟨g, off, cap', hv, hg, hc⟩
  · have : rs = [] := by simpa using h2
    subst this; simp at hk
  · injection hv with h1 h2 h3
    exact ⟨g, off, h1, hg, (hc k rs[k].cells (by rw [List.getElem?_map, List.getElem?_eq_getElem hk]; rfl)).2⟩
set_option maxRecDepth 100000 in
set_option maxHeartbeats 1000000 in
theorem sameFounds_same (a1 a2 : Option Addr) (c1 c2 : Nat) (rs : List Fnd) (w : World) (hn : rs.length ≤ 281474976710656) (h1 : w.reads 3 (.slice a1 rs.length c1) (rs.map Fnd.cells)) (h2 : w.reads 3 (.slice a2 rs.length c2) (rs.map Fnd.cells)) :
    Calls Try.prog 33 #[.slice a1 rs.length c1, .slice a2 rs.length c2] w fun e w' => e = .returned (.bool true) ∧ ∃ n, w' = w.drewN n := by
  have heqn := neq_fnd
  go_enter Try.func33, Try.ntmps33
  go_wp2
  go_loopw [5] (fun i wr => ∃ k : Nat, k ≤ rs.length ∧ i = .int .i64 k ∧ ∃ n, wr = w.drewN n) (fun i _ => rs.length - (intOf i).toNat)
  case atStart => exact ⟨0, Nat.zero_le _, rfl, 0, rfl⟩
  case round =>
    obtain ⟨k, hk, rfl, n, rfl⟩ := hrel
    by_cases hlt : k < rs.length
    · obtain ⟨g1, o1, rfl, hg1, hr1⟩ := Fnd.at_reads h1 hlt
      obtain ⟨g2, o2, rfl, hg2, hr2⟩ := Fnd.at_reads h2 hlt
      generalize rs[k] = c at hr1 hr2
      obtain ⟨x0, x1, x2⟩ := Fnd.off hr1
      obtain ⟨y0, y1, y2⟩ := Fnd.off hr2
      have hcc : Fnd.same c c = true := (Fnd.same_iff c c).2 rfl
      clear hr1 hr2 h1 h2
      go_wp2
      go_quiet (fail)
      go_wp2
      exact ⟨⟨k + 1, by omega, val_int (by omega), n + nq, rfl⟩, by simp [intOf]; omega⟩
    · have hkk : k = rs.length := by omega
      subst hkk
      go_wp2
      go_ret
      exact ⟨rfl, n, rfl⟩
end Go.Proofs.Ytcbbnmodjnnbeaa
