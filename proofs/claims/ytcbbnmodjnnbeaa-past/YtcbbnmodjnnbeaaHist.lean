/- The store's histories: how many versions are not above a revision; the newest one. -/
import Derived.Test.YtcbbnmodjnnbeaaLists2
import Derived.Test.YtcbbnmodjnnbeaaPreds
import Derived.BigQuiet
import Derived.Outline
import Derived.Laws.Bits64
set_option linter.unusedSimpArgs false
set_option linter.unusedVariables false
namespace Go.Proofs.Ytcbbnmodjnnbeaa
open Go.RowKit

structure Ver where
  rev : Nat
  val : ByteArray
  gone : Bool
def Ver.cells (v : Ver) : List Value := [.int .i64 v.rev, .string v.val, .bool v.gone]
theorem Ver.off {w : World} {b p : Nat} {r : Ver} (h : w.rangeAt b p r.cells) : w.cell? ⟨b, p, none⟩ = some (.int .i64 r.rev) ∧ w.cell? ⟨b, p + 1, none⟩ = some (.string r.val) ∧ w.cell? ⟨b, p + 2, none⟩ = some (.bool r.gone) := ⟨h 0 _ rfl, h 1 _ rfl, h 2 _ rfl⟩

/-- The closure that Search asks: is the k-th version above rev? -/
theorem upToLess (w : World) (ba bb g o n cap k : Nat) (rev : Int) (v : Ver) (hk : k < n) (hn : n ≤ 1000000000000) (h0 : w.cell? ⟨ba, 0, none⟩ = some (.slice (some ⟨g, o, none⟩) n cap)) (h1 : w.cell? ⟨bb, 0, none⟩ = some (.int .i64 rev)) (hv : w.rangeAt g (o + k * 3) v.cells) :
    Calls Try.prog 157 #[.int .i64 k, .pointer (some ⟨ba, 0, none⟩), .pointer (some ⟨bb, 0, none⟩)] w fun e w' => e = .returned (.bool (decide (rev < v.rev))) ∧ ∃ m, w' = w.drewN m := by
  obtain ⟨c0, c1, c2⟩ := Ver.off hv
  clear hv
  go_enter Try.func157, Try.ntmps157
  go_wp2
  go_quiet (fail)
  go_wp2
  go_ret
  exact ⟨rfl, nq, rfl⟩

/-- sort.Search over a closure that only reads. -/
theorem sortSearch (w : World) (n : Nat) (p : Nat → Bool) (ba bb : Nat) (hn : n ≤ 1000000000000) (hmono : ∀ i j, i ≤ j → j < n → p i = true → p j = true)
    (hf : ∀ m k, k < n → Calls Try.prog 157 #[.int .i64 k, .pointer (some ⟨ba, 0, none⟩), .pointer (some ⟨bb, 0, none⟩)] (w.drewN m) fun e w' => e = .returned (.bool (p k)) ∧ ∃ q, w' = w.drewN q) (fv : Value) (hfv : fv = .func (.func 157) #[] #[.pointer (some ⟨ba, 0, none⟩), .pointer (some ⟨bb, 0, none⟩)]) :
    Calls Try.prog 156 #[.int .i64 n, fv] w fun e w' => ∃ k : Nat, k ≤ n ∧ (∀ i, i < k → p i = false) ∧ (∀ i, k ≤ i → i < n → p i = true) ∧ e = .returned (.int .i64 k) ∧ ∃ q, w' = w.drewN q := by
  subst hfv
  go_enter Try.func156, Try.ntmps156
  go_wp2
  go_loopw [5, 6] (fun i j wr => ∃ a b m : Nat, a ≤ b ∧ b ≤ n ∧ i = .int .i64 a ∧ j = .int .i64 b ∧ (∀ x, x < a → p x = false) ∧ (∀ x, b ≤ x → x < n → p x = true) ∧ wr = w.drewN m) (fun i j _ => (intOf j).toNat - (intOf i).toNat)
  case atStart => exact ⟨0, n, 0, by omega, by omega, rfl, rfl, fun x hx => by omega, fun x h1 h2 => by omega, rfl⟩
  case round =>
    obtain ⟨a, b, m, hab, hbn, rfl, rfl, ha, hb, rfl⟩ := hrel
    by_cases hlt : a < b
    · obtain ⟨c, HE, hca, hcb⟩ : ∃ c : Nat, Hid (((a : Int) + b) / 2 = (c : Int)) ∧ a ≤ c ∧ c < b := ⟨(a + b) / 2, by show _ = _; omega, by omega, by omega⟩
      have hc := hf m c (by omega)
      cases hp : p c
      · rw [hp] at hc
        go_wp2_with fail
        rw [HE.out]
        refine hc.mono ?_
        rintro e1 w1 ⟨rfl, q, hw1⟩
        have HW : Hid (w1 = w.drewN q) := hw1
        clear hw1
        go_wp2_with fail
        exact ⟨⟨c + 1, b, q, by omega, hbn, val_int (by have := HE.out; omega), rfl, fun x hx => by
          cases hpx : p x
          · rfl
          · exact absurd (hmono x c (by omega) (by omega) hpx) (by rw [hp]; exact Bool.false_ne_true), hb, HW.out⟩, by simp [intOf]; have := HE.out; omega⟩
      · rw [hp] at hc
        go_wp2_with fail
        rw [HE.out]
        refine hc.mono ?_
        rintro e1 w1 ⟨rfl, q, hw1⟩
        have HW : Hid (w1 = w.drewN q) := hw1
        clear hw1
        go_wp2_with fail
        exact ⟨⟨a, c, q, hca, by omega, rfl, val_int (by have := HE.out; omega), ha, fun x h1 h2 => hmono c x h1 h2 hp, HW.out⟩, by simp [intOf]; have := HE.out; omega⟩
    · have hh : a = b := by omega
      subst hh
      go_wp2
      go_ret
      exact ⟨a, hbn, ha, hb, rfl, m, rfl⟩
end Go.Proofs.Ytcbbnmodjnnbeaa
