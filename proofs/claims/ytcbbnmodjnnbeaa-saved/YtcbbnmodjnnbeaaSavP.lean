/- Stores that are saved and loaded stay such. -/
import Derived.Test.YtcbbnmodjnnbeaaLoadP
import Derived.Test.YtcbbnmodjnnbeaaTwiceP
set_option linter.unusedSimpArgs false
set_option linter.unusedVariables false
namespace Go.Proofs.Ytcbbnmodjnnbeaa
open Go.RowKit

theorem Sav.empty : Sav St.empty :=
  ⟨Bnd.empty, fun k h => absurd rfl h, (fun k v hv => by cases hv), (fun k k' v v' _ hv => by cases hv), fun x hx => by rw [List.eq_of_mem_replicate hx]; exact ⟨rfl, fun _ => rfl⟩⟩
theorem mem_lay {s : St} {key val : ByteArray} {gone : Bool} {k : ByteArray} {v : Ver} (h : v ∈ (s.lay key val gone).vers k) : v ∈ s.vers k ∨ (k = key ∧ v = ⟨s.rev + 1, val, gone⟩) := by
  have h2 : v ∈ (if k = key then s.vers key ++ [⟨s.rev + 1, val, gone⟩] else s.vers k) := h
  by_cases e : k = key
  · rw [if_pos e] at h2
    rcases List.mem_append.1 h2 with h1 | h1
    · exact .inl (e ▸ h1)
    · exact .inr ⟨e, List.mem_singleton.1 h1⟩
  · rw [if_neg e] at h2; exact .inl h2
theorem Sav.lay {s : St} (h : Sav s) (key val : ByteArray) (gone : Bool) (hk : key.size ≤ 8) (hk1 : 1 ≤ key.size) (hv : val.size ≤ 8) (hg : gone = true → val.size = 0) (hr : s.rev < 1000000) : Sav (s.lay key val gone) := by
  refine ⟨h.bnd.lay key val gone hk hv hr, fun k hne => ?_, fun k v hv' hgo => ?_, fun k k' v v' hkk hv1 hv2 => ?_, h.ses⟩
  · by_cases e : k = key
    · rw [e]; exact hk1
    · refine h.key k fun e' => hne ?_
      show (if k = key then _ else s.vers k) = []
      rw [if_neg e]; exact e'
  · rcases mem_lay hv' with h1 | ⟨_, rfl⟩
    · exact h.gone k v h1 hgo
    · exact hg hgo
  · rcases mem_lay hv1 with h1 | ⟨e1, rfl⟩
    · rcases mem_lay hv2 with h2 | ⟨e2, rfl⟩
      · exact h.dis k k' v v' hkk h1 h2
      · have := (h.bnd.good.bd k v h1).2
        simp only; omega
    · rcases mem_lay hv2 with h2 | ⟨e2, rfl⟩
      · have := (h.bnd.good.bd k' v' h2).2
        simp only; omega
      · exact absurd (e1.trans e2.symm) hkk
theorem Sav.raise {s : St} (h : Sav s) (f : Nat) (hf : f ≤ s.rev) : Sav (s.raise f) := by
  refine ⟨h.bnd.raise f hf, fun k hne => h.key k fun e => hne ?_, fun k v hv => h.gone k v (List.mem_of_mem_drop hv), fun k k' v v' hkk h1 h2 => h.dis k k' v v' hkk (List.mem_of_mem_drop h1) (List.mem_of_mem_drop h2), h.ses⟩
  show (s.vers k).drop _ = []
  rw [e]; simp
theorem may_key {c : Cmd} (h : c.may = true) (hk : c.kind = 1 ∨ c.kind = 2 ∨ c.kind = 3) : 1 ≤ c.key.size := by
  have hkb : keyB c.key = true := by
    unfold Cmd.may at h
    rw [if_neg (by omega)] at h
    by_cases k1 : c.kind = 1
    · rw [if_pos k1] at h; simp only [Bool.and_eq_true] at h; exact h.1.1.1.2
    · rw [if_neg k1] at h
      by_cases k2 : c.kind = 2
      · rw [if_pos k2] at h; simp only [Bool.and_eq_true] at h; exact h.1.1.1.2
      · rw [if_neg k2, if_pos (by omega)] at h; simp only [Bool.and_eq_true] at h; exact h.1.1.1.2
  unfold keyB at hkb
  exact (of_decide_eq_true hkb).1
theorem Sav.act {s : St} (h : Sav s) (c : Cmd) (hm : c.may = true) : Sav (s.act c).2 := by
  have hc := cmd_bd c hm
  have lay : ∀ (v : ByteArray) (g : Bool), v.size ≤ 8 → (g = true → v.size = 0) → 1 ≤ c.key.size → Sav (s.tryLay c.key v g).2 := by
    intro v g hv hg hk
    unfold St.tryLay
    split
    · exact h
    · exact h.lay _ _ _ hc.key hk hv hg (by have := h.bnd.good.rev; omega)
  unfold St.act
  split
  · next k => exact lay _ _ hc.val (by simp) (may_key hm (.inl k))
  · split
    · next k =>
      split
      · exact lay _ _ hc.val (by simp) (may_key hm (.inr (.inr k)))
      · exact h
    · split
      · next k =>
        split
        · exact lay _ _ (by decide) (fun _ => rfl) (may_key hm (.inr (.inl k)))
        · exact h
      · split
        · split
          · exact h.raise _ (by omega)
          · exact h
        · exact h
theorem Sav.result {s : St} (h : Sav s) (c : Cmd) (hm : c.may = true) : Sav (s.result c).2 := by
  have ha := h.act c hm
  have hb := h.bnd.result c (cmd_bd c hm)
  have hs : sesB c = true := by
    cases hs : sesB c
    · rw [may_of_not_ses c hs] at hm; exact Bool.noConfusion hm
    · rfl
  obtain ⟨r1, r2, r3, r4, r5⟩ := (ses_parts c).1 hs
  unfold St.result at hb ⊢
  split
  · exact ha
  · next h0 =>
    rw [if_neg h0] at hb
    split
    · exact h
    · next h1 =>
      rw [if_neg h1] at hb
      split
      · exact h
      · next h2 =>
        rw [if_neg h2] at hb
        refine ⟨hb, ha.key, ha.gone, ha.dis, fun x hx => ?_⟩
        rcases List.mem_or_eq_of_mem_set hx with hx | rfl
        · exact ha.ses x hx
        · refine ⟨rfl, fun e => ?_⟩
          exfalso
          have e' : c.seq.toNat = 0 := e
          have : c.seq = 0 := by omega
          rw [this] at r5
          simp only [beq_self_eq_true, beq_iff_eq] at r5
          exact h0 r5
theorem Sav.all {s : St} (h : Sav s) : ∀ cs : List Cmd, (∀ c ∈ cs, c.may = true) → Sav (doAll s cs).2
  | [], _ => h
  | c :: cs, hm => (Sav.all (h.result c (hm c (by simp))) cs fun x hx => hm x (by simp [hx]))
theorem Sav.st4 : Sav st4 := by
  have := Sav.all Sav.empty cmds4 may4
  rw [doAll4] at this
  exact this
end Go.Proofs.Ytcbbnmodjnnbeaa
