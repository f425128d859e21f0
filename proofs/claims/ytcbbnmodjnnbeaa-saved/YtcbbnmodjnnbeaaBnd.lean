/- What a store's texts and numbers are bounded by. -/
import Derived.Test.YtcbbnmodjnnbeaaDoW
set_option linter.unusedSimpArgs false
set_option linter.unusedVariables false
namespace Go.Proofs.Ytcbbnmodjnnbeaa
open Go.RowKit

structure Bnd (s : St) : Prop where
  good : Good s
  key : ∀ k, s.vers k ≠ [] → k.size ≤ 8
  val : ∀ k, ∀ v ∈ s.vers k, v.val.size ≤ 8
  tot : ∀ ks : List ByteArray, ks.Nodup → (ks.map fun k => (s.vers k).length).sum ≤ s.rev
  seq : ∀ x ∈ s.ss, x.1 ≤ 1000000
  res : ∀ x ∈ s.ss, 0 ≤ x.2.rev ∧ x.2.rev ≤ s.rev
theorem sum_le_sum {ks : List ByteArray} {f g : ByteArray → Nat} (h : ∀ k, f k ≤ g k) : (ks.map f).sum ≤ (ks.map g).sum := by
  induction ks with
  | nil => simp
  | cons x xs ih => simp only [List.map_cons, List.sum_cons]; have := h x; omega
theorem sum_one {ks : List ByteArray} (hnd : ks.Nodup) {f g : ByteArray → Nat} {key : ByteArray} (h : ∀ k, k ≠ key → f k = g k) (hk : f key = g key + 1) : (ks.map f).sum ≤ (ks.map g).sum + 1 := by
  induction ks with
  | nil => simp
  | cons x xs ih =>
    obtain ⟨h1, h2⟩ := List.nodup_cons.1 hnd
    simp only [List.map_cons, List.sum_cons]
    by_cases hx : x = key
    · subst hx
      have : (xs.map f) = (xs.map g) := List.map_congr_left fun k hk' => h k fun e => h1 (e ▸ hk')
      rw [this]; omega
    · have := ih h2
      rw [h x hx]; omega
theorem Bnd.lay {s : St} (h : Bnd s) (key val : ByteArray) (gone : Bool) (hk : key.size ≤ 8) (hv : val.size ≤ 8) (hr : s.rev < 1000000) : Bnd (s.lay key val gone) := by
  refine ⟨h.good.lay key val gone hr, fun k hne => ?_, fun k v hv' => ?_, fun ks hnd => ?_, h.seq, fun x hx => ?_⟩
  · by_cases e : k = key
    · rw [e]; exact hk
    · refine h.key k fun e' => hne ?_
      show (if k = key then _ else s.vers k) = []
      rw [if_neg e]; exact e'
  · have hv2 : v ∈ (if k = key then s.vers key ++ [⟨s.rev + 1, val, gone⟩] else s.vers k) := hv'
    by_cases e : k = key
    · rw [if_pos e] at hv2
      rcases List.mem_append.1 hv2 with h1 | h1
      · exact h.val key v h1
      · rw [List.mem_singleton.1 h1]; exact hv
    · rw [if_neg e] at hv2; exact h.val k v hv2
  · have h1 := sum_one (ks := ks) hnd (f := fun k => ((s.lay key val gone).vers k).length) (g := fun k => (s.vers k).length) (key := key) (fun k hk => by
      show (if k = key then _ else s.vers k).length = _
      rw [if_neg hk]) (by
      show (if key = key then s.vers key ++ [⟨s.rev + 1, val, gone⟩] else s.vers key).length = _
      rw [if_pos rfl]; simp)
    have h2 := h.tot ks hnd
    show _ ≤ s.rev + 1
    omega
  · have := h.res x hx
    exact ⟨this.1, by show _ ≤ ((s.rev + 1 : Nat) : Int); omega⟩
theorem Bnd.raise {s : St} (h : Bnd s) (f : Nat) (hf : f ≤ s.rev) : Bnd (s.raise f) := by
  refine ⟨drop_good h.good f hf, fun k hne => h.key k fun e => hne ?_, fun k v hv => h.val k v (List.mem_of_mem_drop hv), fun ks hnd => Nat.le_trans (sum_le_sum fun k => ?_) (h.tot ks hnd), h.seq, h.res⟩
  · show (s.vers k).drop _ = []
    rw [e]; simp
  · show ((s.vers k).drop _).length ≤ _
    rw [List.length_drop]; omega
theorem Bnd.act {s : St} (h : Bnd s) (c : Cmd) (hc : CmdBd c) : Bnd (s.act c).2 := by
  have lay : ∀ (v : ByteArray) (g : Bool), v.size ≤ 8 → Bnd (s.tryLay c.key v g).2 := by
    intro v g hv
    unfold St.tryLay
    split
    · exact h
    · exact h.lay _ _ _ hc.key hv (by have := h.good.rev; omega)
  unfold St.act
  split
  · exact lay _ _ hc.val
  · split
    · split
      · exact lay _ _ hc.val
      · exact h
    · split
      · split
        · exact lay _ _ (by decide)
        · exact h
      · split
        · split
          · exact h.raise _ (by omega)
          · exact h
        · exact h
theorem act_ss (s : St) (c : Cmd) : (s.act c).2.ss = s.ss := by
  have lay : ∀ (v : ByteArray) (g : Bool), (s.tryLay c.key v g).2.ss = s.ss := by
    intro v g
    unfold St.tryLay
    split <;> rfl
  unfold St.act
  split
  · exact lay _ _
  · split
    · split
      · exact lay _ _
      · rfl
    · split
      · split
        · exact lay _ _
        · rfl
      · split
        · split <;> rfl
        · rfl
theorem Bnd.result {s : St} (h : Bnd s) (c : Cmd) (hc : CmdBd c) : Bnd (s.result c).2 := by
  have ha := h.act c hc
  unfold St.result
  split
  · exact ha
  · split
    · exact h
    · split
      · exact h
      · refine ⟨⟨ha.good.rev, ha.good.floor, ha.good.asc, ha.good.bd, ?_⟩, ha.key, ha.val, ha.tot, fun x hx => ?_, fun x hx => ?_⟩
        · show ((s.done c).2.ss.set _ _).length = 8
          rw [List.length_set]; exact ha.good.ss
        · rcases List.mem_or_eq_of_mem_set hx with hx | rfl
          · exact ha.seq x hx
          · show c.seq.toNat ≤ _
            have := hc.q1; omega
        · rcases List.mem_or_eq_of_mem_set hx with hx | rfl
          · exact ha.res x hx
          · exact ⟨by show (0 : Int) ≤ ((s.act c).2.rev : Int); omega, by show ((s.act c).2.rev : Int) ≤ ((s.act c).2.rev : Int); omega⟩
theorem Bnd.all {s : St} (h : Bnd s) : ∀ cs : List Cmd, (∀ c ∈ cs, c.may = true) → Bnd (doAll s cs).2
  | [], _ => h
  | c :: cs, hm => (Bnd.all (h.result c (cmd_bd c (hm c (by simp)))) cs fun x hx => hm x (by simp [hx]))
end Go.Proofs.Ytcbbnmodjnnbeaa
