/- The law's own comparison of two lists: sameFounds. -/
import Derived.Test.YtcbbnmodjnnbeaaRaise
import Derived.BigQuiet
import Derived.Test.YtcbbnmodjnnbeaaNewW
import Derived.Test.YtcbbnmodjnnbeaaSess8
import Derived.Test.YtcbbnmodjnnbeaaLoadP
set_option linter.unusedSimpArgs false
set_option linter.unusedVariables false
namespace Go.Proofs.Ytcbbnmodjnnbeaa
open Go.RowKit

theorem Fnd.off {w : World} {b p : Nat} {r : Fnd} (h : w.rangeAt b p r.cells) :
    w.cell? ⟨b, p, none⟩ = some (.string r.key) ∧ w.cell? ⟨b, p + 1, none⟩ = some (.string r.val) ∧ w.cell? ⟨b, p + 2, none⟩ = some (.int .i64 r.rev) :=
  ⟨h 0 _ rfl, h 1 _ rfl, h 2 _ rfl⟩
theorem Fnd.at_reads {w : World} {a : Option Addr} {n cap : Nat} {rs : List Fnd} (h : w.reads 3 (.slice a n cap) (rs.map Fnd.cells)) {k : Nat} (hk : k < rs.length) : ∃ g o, a = some ⟨g, o, none⟩ ∧ g < w.heap.size ∧ w.rangeAt g (o + k * 3) rs[k].cells := by
  rcases h with ⟨_, h2⟩ | ⟨g, off, cap', hv, hg, hc⟩
  · have : rs = [] := by simpa using h2
    subst this; simp at hk
  · injection hv with h1 h2 h3
    exact ⟨g, off, h1, hg, (hc k rs[k].cells (by rw [List.getElem?_map, List.getElem?_eq_getElem hk]; rfl)).2⟩
set_option maxRecDepth 100000 in
set_option maxHeartbeats 1000000 in
theorem sameFounds_same (a1 a2 : Option Addr) (c1 c2 : Nat) (rs : List Fnd) (w : World) (hn : rs.length ≤ 281474976710656) (h1 : w.reads 3 (.slice a1 rs.length c1) (rs.map Fnd.cells)) (h2 : w.reads 3 (.slice a2 rs.length c2) (rs.map Fnd.cells)) :
    Calls Try.prog 33 #[.slice a1 rs.length c1, .slice a2 rs.length c2] w fun e w' => e = .returned (.bool true) ∧ ∃ n, w' = w.drewN n := by
  have heqn := neq_fnd
  go_enter Try.func33, Try.ntmps33
  go_wp2
  go_loopw [5] (fun i wr => ∃ k : Nat, k ≤ rs.length ∧ i = .int .i64 k ∧ ∃ n, wr = w.drewN n) (fun i _ => rs.length - (intOf i).toNat)
  case atStart => exact ⟨0, Nat.zero_le _, rfl, 0, rfl⟩
  case round =>
    obtain ⟨k, hk, rfl, n, rfl⟩ := hrel
    by_cases hlt : k < rs.length
    · obtain ⟨g1, o1, rfl, hg1, hr1⟩ := Fnd.at_reads h1 hlt
      obtain ⟨g2, o2, rfl, hg2, hr2⟩ := Fnd.at_reads h2 hlt
      generalize rs[k] = c at hr1 hr2
      obtain ⟨x0, x1, x2⟩ := Fnd.off hr1
      obtain ⟨y0, y1, y2⟩ := Fnd.off hr2
      have hcc : Fnd.same c c = true := (Fnd.same_iff c c).2 rfl
      clear hr1 hr2 h1 h2
      go_wp2
      go_quiet (fail)
      go_wp2
      exact ⟨⟨k + 1, by omega, val_int (by omega), n + nq, rfl⟩, by simp [intOf]; omega⟩
    · have hkk : k = rs.length := by omega
      subst hkk
      go_wp2
      go_ret
      exact ⟨rfl, n, rfl⟩
end Go.Proofs.Ytcbbnmodjnnbeaa
/- The document's example of a store: the pure side. -/
set_option linter.unusedSimpArgs false
set_option linter.unusedVariables false
namespace Go.Proofs.Ytcbbnmodjnnbeaa
open Go.RowKit

abbrev xA : ByteArray := ⟨#[97]⟩
abbrev xB : ByteArray := ⟨#[98]⟩
abbrev x1 : ByteArray := ⟨#[49]⟩
abbrev x2 : ByteArray := ⟨#[50]⟩
abbrev x3 : ByteArray := ⟨#[51]⟩
abbrev xN : ByteArray := ⟨#[]⟩
def cmds4 : List Cmd := [⟨1, xA, x1, xN, 0, 0, 0⟩, ⟨1, xB, x2, xN, 0, 0, 0⟩, ⟨3, xA, x3, x1, 0, 0, 0⟩, ⟨2, xB, xN, xN, 0, 0, 0⟩]
def st4 : St := (((St.empty.lay xA x1 false).lay xB x2 false).lay xA x3 false).lay xB xN true
theorem may4 : ∀ c ∈ cmds4, c.may = true := by
  intro c hc
  simp only [cmds4, List.mem_cons, List.not_mem_nil, or_false] at hc
  rcases hc with rfl | rfl | rfl | rfl <;> rfl
theorem doAll4 : doAll St.empty cmds4 = ([⟨true, 1, false⟩, ⟨true, 2, false⟩, ⟨true, 3, false⟩, ⟨true, 4, false⟩], st4) := by rfl
theorem vers4 (k : ByteArray) : st4.vers k = if k = xB then [⟨2, x2, false⟩, ⟨4, xN, true⟩] else if k = xA then [⟨1, x1, false⟩, ⟨3, x3, false⟩] else [] := by
  by_cases h1 : k = xB
  · subst h1; rfl
  · by_cases h2 : k = xA
    · subst h2; rfl
    · rw [if_neg h1, if_neg h2]
      simp only [st4, St.lay, if_neg h1, if_neg h2]
      rfl
theorem range42 : RangeIs st4 xN xN 2 [⟨xA, x1, 1⟩, ⟨xB, x2, 2⟩] := by
  refine ⟨by simp; decide, fun f => ?_⟩
  rw [vers4]
  constructor
  · intro hf
    simp only [List.mem_cons, List.not_mem_nil, or_false] at hf
    rcases hf with rfl | rfl
    · exact ⟨by simp, .inl rfl, 1, rfl, rfl⟩
    · exact ⟨by simp, .inl rfl, 2, rfl, rfl⟩
  · rintro ⟨_, _, r, h1, h2⟩
    obtain ⟨fk, fv, fr⟩ := f
    simp only at h1 h2
    by_cases e1 : fk = xB
    · rw [if_pos e1] at h1
      have : some (x2, 2) = some (fv, r) := h1
      injection this with this; injection this with e2 e3
      subst e1 e2 e3 h2; simp
    · rw [if_neg e1] at h1
      by_cases e4 : fk = xA
      · rw [if_pos e4] at h1
        have : some (x1, 1) = some (fv, r) := h1
        injection this with this; injection this with e2 e3
        subst e4 e2 e3 h2; simp
      · rw [if_neg e4] at h1
        have : (none : Option (ByteArray × Nat)) = some (fv, r) := h1
        cases this
theorem range44 : RangeIs st4 xN xN 4 [⟨xA, x3, 3⟩] := by
  refine ⟨by simp, fun f => ?_⟩
  rw [vers4]
  constructor
  · intro hf
    simp only [List.mem_cons, List.not_mem_nil, or_false] at hf
    subst hf
    exact ⟨by simp, .inl rfl, 3, rfl, rfl⟩
  · rintro ⟨_, _, r, h1, h2⟩
    obtain ⟨fk, fv, fr⟩ := f
    simp only at h1 h2
    by_cases e1 : fk = xB
    · rw [if_pos e1] at h1
      have : (none : Option (ByteArray × Nat)) = some (fv, r) := h1
      cases this
    · rw [if_neg e1] at h1
      by_cases e4 : fk = xA
      · rw [if_pos e4] at h1
        have : some (x3, 3) = some (fv, r) := h1
        injection this with this; injection this with e2 e3
        subst e4 e2 e3 h2; simp
      · rw [if_neg e4] at h1
        have : (none : Option (ByteArray × Nat)) = some (fv, r) := h1
        cases this
theorem reads_block {w : World} {q sz cap : Nat} {T : TypeId} {cs : List (List Value)} {arr : Array Value} (h : w.heap[q]? = some (.cells arr T)) (ha : arr.toList = cs.flatten) (hs : ∀ c ∈ cs, c.length = sz) : w.reads sz (.slice (some ⟨q, 0, none⟩) cs.length cap) cs := by
  refine .inr ⟨q, 0, cap, rfl, (Array.getElem?_eq_some_iff.1 h).1, fun i c hi => ⟨hs c (List.mem_of_getElem? hi), fun j v hj => ?_⟩⟩
  have hjl : j < sz := by rw [← hs c (List.mem_of_getElem? hi)]; exact (List.getElem?_eq_some_iff.1 hj).1
  have := flatten_at sz cs i c hs hi j hjl
  rw [← ha, hj] at this
  simp only [World.cell?, h, Nat.zero_add]
  rw [← Array.getElem?_toList]
  exact this
theorem holdsDo (W : World) (p b : Nat) (D : DataW Value) (h : StoreAt W p b D St.empty) (q : Nat) (hq : ¬ footS p b D q) (hc : W.heap[q]? = some (.cells (cmds4.map Cmd.cells).flatten.toArray 23)) :
    Calls Try.prog 31 #[.pointer (some ⟨p, 0, none⟩), .slice (some ⟨q, 0, none⟩) 4 4] W fun e w' => ∃ g D', e = .returned (.tuple #[.slice (some ⟨g, 0, none⟩) 4 4, .int .i64 0]) ∧ g < w'.heap.size ∧ w'.cell? ⟨g, 9, none⟩ = some (.bool true) ∧ w'.cell? ⟨g, 10, none⟩ = some (.int .i64 4) ∧ W.heap.size ≤ g ∧
      StoreAt w' p b D' st4 ∧ (∀ x, footM b D' x → footM b D x ∨ W.heap.size ≤ x) ∧ W.turned w' (footS p b D) := by
  have hr : W.reads 7 (.slice (some ⟨q, 0, none⟩) cmds4.length 4) (cmds4.map Cmd.cells) := reads_block (cs := cmds4.map Cmd.cells) hc (by simp) (fun c hc => by obtain ⟨x, _, rfl⟩ := List.mem_map.1 hc; rfl)
  refine (storeDoYes W p b D _ h _ 4 cmds4 hr (fun k hk => by cases hk; exact hq) (by decide) may4).mono ?_
  rintro e w' ⟨g, D', rfl, ho, hg, _, hS, hF, ht⟩
  rw [doAll4] at ho hS
  have h1 := ho.reads
  rcases h1 with ⟨h2, _⟩ | ⟨g', off, cap, hv, hg', hcell⟩
  · cases h2
  · injection hv with e1 e2 e3
    injection e1 with e1
    injection e1 with e4 e5 _
    subst e4 e5
    obtain ⟨_, h3⟩ := hcell 3 _ rfl
    exact ⟨g, D', rfl, hg', h3 0 _ rfl, h3 1 _ rfl, hg, hS, hF, ht⟩
theorem holdsRange (W : World) (p b : Nat) (D : DataW Value) (h : StoreAt W p b D st4) (rev : Nat) (l : List Fnd) (hl : RangeIs st4 xN xN rev l) (hle : l.length ≤ 9) (hrev : rev ≤ 4) :
    Calls Try.prog 32 #[.pointer (some ⟨p, 0, none⟩), .string xN, .string xN, .int .i64 rev, .int .i64 9] W fun e w' => ∃ a cap, e = .returned (.tuple #[.slice a l.length cap, .int .i64 0]) ∧ w'.reads 3 (.slice a l.length cap) (l.map Fnd.cells) ∧ Below W.heap.size W w' := by
  refine (storeRangeOk W p b D _ h xN xN rev 9 (by show ((0 : Nat) : Int) ≤ _; omega) (by show _ ≤ ((4 : Nat) : Int); omega) (by decide)).mono ?_
  rintro e w' ⟨l', v, rfl, hl', ho, _, hb⟩
  have : l' = l := hl'.unique hl fun _ => rfl
  subst this
  rw [List.take_of_length_le hle] at ho
  obtain ⟨a, cap, hv⟩ := ho.len
  rw [List.length_map] at hv
  subst hv
  exact ⟨a, cap, rfl, ho.reads, hb⟩
theorem holdsRange2 (W : World) (p b : Nat) (D : DataW Value) (h : StoreAt W p b D st4) : Calls Try.prog 32 #[.pointer (some ⟨p, 0, none⟩), .string xN, .string xN, .int .i64 2, .int .i64 9] W fun e w' => ∃ a cap, e = .returned (.tuple #[.slice a 2 cap, .int .i64 0]) ∧ w'.reads 3 (.slice a 2 cap) ([(⟨xA, x1, 1⟩ : Fnd), ⟨xB, x2, 2⟩].map Fnd.cells) ∧ Below W.heap.size W w' :=
  holdsRange W p b D h 2 _ range42 (by simp) (by decide)
theorem holdsRange4 (W : World) (p b : Nat) (D : DataW Value) (h : StoreAt W p b D st4) : Calls Try.prog 32 #[.pointer (some ⟨p, 0, none⟩), .string xN, .string xN, .int .i64 4, .int .i64 9] W fun e w' => ∃ a cap, e = .returned (.tuple #[.slice a 1 cap, .int .i64 0]) ∧ w'.reads 3 (.slice a 1 cap) ([(⟨xA, x3, 3⟩ : Fnd)].map Fnd.cells) ∧ Below W.heap.size W w' :=
  holdsRange W p b D h 4 _ range44 (by simp) (by decide)
theorem holdsRevs (W : World) (p b : Nat) (D : DataW Value) (h : StoreAt W p b D st4) : Calls Try.prog 30 #[.pointer (some ⟨p, 0, none⟩)] W fun e w' => e = .returned (.tuple #[.int .i64 4, .int .i64 0]) ∧ Below W.heap.size W w' := storeRevs W p b D st4 h
theorem holdsSame2 (W : World) (a1 : Option Addr) (c1 q : Nat) (h1 : W.reads 3 (.slice a1 2 c1) ([(⟨xA, x1, 1⟩ : Fnd), ⟨xB, x2, 2⟩].map Fnd.cells)) (h2 : W.heap[q]? = some (.cells #[.string xA, .string x1, .int .i64 1, .string xB, .string x2, .int .i64 2] 131)) :
    Calls Try.prog 33 #[.slice a1 2 c1, .slice (some ⟨q, 0, none⟩) 2 2] W fun e w' => e = .returned (.bool true) ∧ ∃ n, w' = W.drewN n :=
  sameFounds_same a1 (some ⟨q, 0, none⟩) c1 2 [⟨xA, x1, 1⟩, ⟨xB, x2, 2⟩] W (by simp) h1 (reads_block (cs := [(⟨xA, x1, 1⟩ : Fnd), ⟨xB, x2, 2⟩].map Fnd.cells) h2 rfl (fun c hc => by obtain ⟨x, _, rfl⟩ := List.mem_map.1 hc; rfl))
theorem holdsSame4 (W : World) (a1 : Option Addr) (c1 q : Nat) (h1 : W.reads 3 (.slice a1 1 c1) ([(⟨xA, x3, 3⟩ : Fnd)].map Fnd.cells)) (h2 : W.heap[q]? = some (.cells #[.string xA, .string x3, .int .i64 3] 131)) :
    Calls Try.prog 33 #[.slice a1 1 c1, .slice (some ⟨q, 0, none⟩) 1 1] W fun e w' => e = .returned (.bool true) ∧ ∃ n, w' = W.drewN n :=
  sameFounds_same a1 (some ⟨q, 0, none⟩) c1 1 [⟨xA, x3, 3⟩] W (by simp) h1 (reads_block (cs := [(⟨xA, x3, 3⟩ : Fnd)].map Fnd.cells) h2 rfl (fun c hc => by obtain ⟨x, _, rfl⟩ := List.mem_map.1 hc; rfl))
theorem readsGrown {w w' : World} {sz : Nat} {v : Value} {cs : List (List Value)} (h : w.reads sz v cs) (hb : Below w.heap.size w w') : w'.reads sz v cs := h.keep fun k hk => hb.block k (reads_lt' h hk)
end Go.Proofs.Ytcbbnmodjnnbeaa
/- Stores that are saved and loaded stay such. -/
set_option linter.unusedSimpArgs false
set_option linter.unusedVariables false
namespace Go.Proofs.Ytcbbnmodjnnbeaa
open Go.RowKit

theorem sav_none : ∀ ks : List ByteArray, (ks.map fun k => (St.empty.vers k).length).sum = 0
  | [] => rfl
  | x :: xs => by rw [List.map_cons, List.sum_cons, sav_none xs]; rfl
theorem sav_bnd : Bnd St.empty :=
  ⟨⟨by decide, by decide, fun k => List.Pairwise.nil, (fun k v hv => by cases hv), rfl⟩, fun k h => absurd rfl h, (fun k v hv => by cases hv), fun ks _ => by rw [sav_none]; exact Nat.zero_le _, fun x hx => by rw [List.eq_of_mem_replicate hx]; decide, fun x hx => by rw [List.eq_of_mem_replicate hx]; exact ⟨by decide, by decide⟩⟩
theorem Sav.empty : Sav St.empty :=
  ⟨sav_bnd, fun k h => absurd rfl h, (fun k v hv => by cases hv), (fun k k' v v' _ hv => by cases hv), fun x hx => by rw [List.eq_of_mem_replicate hx]; exact ⟨rfl, fun _ => rfl⟩⟩
theorem mem_lay {s : St} {key val : ByteArray} {gone : Bool} {k : ByteArray} {v : Ver} (h : v ∈ (s.lay key val gone).vers k) : v ∈ s.vers k ∨ (k = key ∧ v = ⟨s.rev + 1, val, gone⟩) := by
  have h2 : v ∈ (if k = key then s.vers key ++ [⟨s.rev + 1, val, gone⟩] else s.vers k) := h
  by_cases e : k = key
  · rw [if_pos e] at h2
    rcases List.mem_append.1 h2 with h1 | h1
    · exact .inl (e ▸ h1)
    · exact .inr ⟨e, List.mem_singleton.1 h1⟩
  · rw [if_neg e] at h2; exact .inl h2
theorem Sav.lay {s : St} (h : Sav s) (key val : ByteArray) (gone : Bool) (hk : key.size ≤ 8) (hk1 : 1 ≤ key.size) (hv : val.size ≤ 8) (hg : gone = true → val.size = 0) (hr : s.rev < 1000000) : Sav (s.lay key val gone) := by
  refine ⟨h.bnd.lay key val gone hk hv hr, fun k hne => ?_, fun k v hv' hgo => ?_, fun k k' v v' hkk hv1 hv2 => ?_, h.ses⟩
  · by_cases e : k = key
    · rw [e]; exact hk1
    · refine h.key k fun e' => hne ?_
      show (if k = key then _ else s.vers k) = []
      rw [if_neg e]; exact e'
  · rcases mem_lay hv' with h1 | ⟨_, rfl⟩
    · exact h.gone k v h1 hgo
    · exact hg hgo
  · rcases mem_lay hv1 with h1 | ⟨e1, rfl⟩
    · rcases mem_lay hv2 with h2 | ⟨e2, rfl⟩
      · exact h.dis k k' v v' hkk h1 h2
      · have := (h.bnd.good.bd k v h1).2
        simp only; omega
    · rcases mem_lay hv2 with h2 | ⟨e2, rfl⟩
      · have := (h.bnd.good.bd k' v' h2).2
        simp only; omega
      · exact absurd (e1.trans e2.symm) hkk
theorem Sav.raise {s : St} (h : Sav s) (f : Nat) (hf : f ≤ s.rev) : Sav (s.raise f) := by
  refine ⟨h.bnd.raise f hf, fun k hne => h.key k fun e => hne ?_, fun k v hv => h.gone k v (List.mem_of_mem_drop hv), fun k k' v v' hkk h1 h2 => h.dis k k' v v' hkk (List.mem_of_mem_drop h1) (List.mem_of_mem_drop h2), h.ses⟩
  show (s.vers k).drop _ = []
  rw [e]; simp
theorem may_key {c : Cmd} (h : c.may = true) (hk : c.kind = 1 ∨ c.kind = 2 ∨ c.kind = 3) : 1 ≤ c.key.size := by
  have hkb : keyB c.key = true := by
    unfold Cmd.may at h
    rw [if_neg (by omega)] at h
    by_cases k1 : c.kind = 1
    · rw [if_pos k1] at h; simp only [Bool.and_eq_true] at h; exact h.1.1.1.2
    · rw [if_neg k1] at h
      by_cases k2 : c.kind = 2
      · rw [if_pos k2] at h; simp only [Bool.and_eq_true] at h; exact h.1.1.1.2
      · rw [if_neg k2, if_pos (by omega)] at h; simp only [Bool.and_eq_true] at h; exact h.1.1.1.2
  unfold keyB at hkb
  exact (of_decide_eq_true hkb).1
theorem Sav.act {s : St} (h : Sav s) (c : Cmd) (hm : c.may = true) : Sav (s.act c).2 := by
  have hc := cmd_bd c hm
  have lay : ∀ (v : ByteArray) (g : Bool), v.size ≤ 8 → (g = true → v.size = 0) → 1 ≤ c.key.size → Sav (s.tryLay c.key v g).2 := by
    intro v g hv hg hk
    unfold St.tryLay
    split
    · exact h
    · exact h.lay _ _ _ hc.key hk hv hg (by have := h.bnd.good.rev; omega)
  unfold St.act
  split
  · next k => exact lay _ _ hc.val (by simp) (may_key hm (.inl k))
  · split
    · next k =>
      split
      · exact lay _ _ hc.val (by simp) (may_key hm (.inr (.inr k)))
      · exact h
    · split
      · next k =>
        split
        · exact lay _ _ (by decide) (fun _ => rfl) (may_key hm (.inr (.inl k)))
        · exact h
      · split
        · split
          · exact h.raise _ (by omega)
          · exact h
        · exact h
theorem Sav.result {s : St} (h : Sav s) (c : Cmd) (hm : c.may = true) : Sav (s.result c).2 := by
  have ha := h.act c hm
  have hb := h.bnd.result c (cmd_bd c hm)
  have hs : sesB c = true := by
    cases hs : sesB c
    · rw [may_of_not_ses c hs] at hm; exact Bool.noConfusion hm
    · rfl
  obtain ⟨r1, r2, r3, r4, r5⟩ := (ses_parts c).1 hs
  unfold St.result at hb ⊢
  split
  · exact ha
  · next h0 =>
    rw [if_neg h0] at hb
    split
    · exact h
    · next h1 =>
      rw [if_neg h1] at hb
      split
      · exact h
      · next h2 =>
        rw [if_neg h2] at hb
        refine ⟨hb, ha.key, ha.gone, ha.dis, fun x hx => ?_⟩
        rcases List.mem_or_eq_of_mem_set hx with hx | rfl
        · exact ha.ses x hx
        · refine ⟨rfl, fun e => ?_⟩
          exfalso
          have e' : c.seq.toNat = 0 := e
          have : c.seq = 0 := by omega
          rw [this] at r5
          simp only [beq_self_eq_true, beq_iff_eq] at r5
          exact h0 r5
theorem Sav.all {s : St} (h : Sav s) : ∀ cs : List Cmd, (∀ c ∈ cs, c.may = true) → Sav (doAll s cs).2
  | [], _ => h
  | c :: cs, hm => (Sav.all (h.result c (hm c (by simp))) cs fun x hx => hm x (by simp [hx]))
theorem Sav.st4 : Sav st4 := by
  have := Sav.all Sav.empty cmds4 may4
  rw [doAll4] at this
  exact this
end Go.Proofs.Ytcbbnmodjnnbeaa
/- What Past has told so far: two lists side by side, the one of lists. -/
set_option linter.unusedSimpArgs false
set_option linter.unusedVariables false
namespace Go.Proofs.Ytcbbnmodjnnbeaa
open Go.RowKit

theorem owns_ne {w : World} {e e' : TypeId} {sz sz' : Nat} {v v' : Value} {cs cs' : List (List Value)} (h : w.ownL e sz v cs) (h' : w.ownL e' sz' v' cs') (hne : e ≠ e') {x : Nat} (hx : v.ownBlock = some x) : v'.ownBlock ≠ some x := by
  intro hx'
  rcases h.1.2 with ⟨rfl, _⟩ | ⟨g, cap, cur, rfl, _, hb, _⟩
  · cases hx
  · rcases h'.1.2 with ⟨rfl, _⟩ | ⟨g', cap', cur', rfl, _, hb', _⟩
    · cases hx'
    · cases hx; cases hx'
      rw [hb] at hb'
      injection hb' with hb'
      injection hb' with _ h1 _
      exact hne h1
structure Tab (w : World) (v5 v6 : Value) (hs : List Value) (tl : List (List Fnd)) (bs : List Bool) : Prop where
  own5 : w.ownL 73 1 v5 (hs.map fun h => [h])
  own6 : w.ownL 4 1 v6 (bs.map fun b => [.bool b])
  rd : ∀ (j : Nat) (h : Value) (l : List Fnd), hs[j]? = some h → tl[j]? = some l → w.reads 3 h (l.map Fnd.cells)
  len : hs.length = tl.length
  dh : ∀ h ∈ hs, ∀ x, h.ownBlock = some x → x < w.heap.size ∧ v5.ownBlock ≠ some x ∧ v6.ownBlock ≠ some x
def tabF (v5 v6 : Value) (hs : List Value) (x : Nat) : Prop := v5.ownBlock = some x ∨ v6.ownBlock = some x ∨ ∃ h ∈ hs, h.ownBlock = some x
theorem Tab.lt {w : World} {v5 v6 : Value} {hs : List Value} {tl : List (List Fnd)} {bs : List Bool} (h : Tab w v5 v6 hs tl bs) {x : Nat} (hx : tabF v5 v6 hs x) : x < w.heap.size := by
  rcases hx with hx | hx | ⟨u, hu, hx⟩
  · exact h.own5.lt hx
  · exact h.own6.lt hx
  · exact (h.dh u hu x hx).1
theorem Tab.nil (w : World) : Tab w nilS nilS [] [] [] := ⟨World.ownL.nil _ _ _, World.ownL.nil _ _ _, fun j h l hj => by simp at hj, rfl, fun h hh => by cases hh⟩
theorem Tab.keep {w w' : World} {v5 v6 : Value} {hs : List Value} {tl : List (List Fnd)} {bs : List Bool} (h : Tab w v5 v6 hs tl bs) (hw : w.heap.size ≤ w'.heap.size) (hk : ∀ x, tabF v5 v6 hs x → w'.heap[x]? = w.heap[x]?) : Tab w' v5 v6 hs tl bs :=
  ⟨h.own5.keep fun x hx => hk x (.inl hx), h.own6.keep fun x hx => hk x (.inr (.inl hx)), fun j u l hj hl => (h.rd j u l hj hl).keep fun x hx => hk x (.inr (.inr ⟨u, List.mem_of_getElem? hj, hx⟩)), h.len, fun u hu x hx => ⟨Nat.lt_of_lt_of_le (h.dh u hu x hx).1 hw, (h.dh u hu x hx).2⟩⟩
/-- told grows by a nil. -/
theorem Tab.app5 {w w' : World} {v5 v5' v6 : Value} {hs : List Value} {tl : List (List Fnd)} {bs : List Bool} (h : Tab w v5 v6 hs tl bs) (ho : w'.ownL 73 1 v5' (hs.map (fun h => [h]) ++ [#[nilS].toList])) (hg : Grew w w' v5 v5') :
    Tab w' v5' v6 (hs ++ [nilS]) (tl ++ [[]]) bs ∧ ∀ x, tabF v5' v6 (hs ++ [nilS]) x → tabF v5 v6 hs x ∨ w.heap.size ≤ x := by
  have h5 : ∀ x, v5'.ownBlock = some x → v5.ownBlock = some x ∨ w.heap.size ≤ x := fun x hx => by
    rcases hg.own with h1 | h1
    · exact .inl (h1 ▸ hx)
    · exact .inr (h1 x hx)
  have hsz := hg.g.size
  refine ⟨⟨by rw [List.map_append]; exact ho, h.own6.grew hg fun x hx => owns_ne h.own6 h.own5 (by decide) hx, fun j u l hj hl => ?_, by simp [h.len], fun u hu x hx => ?_⟩, fun x hx => ?_⟩
  · rcases Nat.lt_or_ge j hs.length with hjl | hjl
    · rw [List.getElem?_append_left hjl] at hj
      rw [List.getElem?_append_left (by rw [← h.len]; exact hjl)] at hl
      exact (h.rd j u l hj hl).keep fun x hx => hg.keep (h.dh u (List.mem_of_getElem? hj) x hx).1 (h.dh u (List.mem_of_getElem? hj) x hx).2.1
    · rw [List.getElem?_append_right hjl] at hj
      rw [List.getElem?_append_right (by rw [← h.len]; exact hjl)] at hl
      have e1 := List.mem_of_getElem? hj
      have e2 := List.mem_of_getElem? hl
      rw [List.mem_singleton.1 e1, List.mem_singleton.1 e2]
      exact .inl ⟨rfl, rfl⟩
  · rcases List.mem_append.1 hu with hu | hu
    · obtain ⟨h1, h2, h3⟩ := h.dh u hu x hx
      refine ⟨by omega, fun e => ?_, h3⟩
      rcases h5 x e with h4 | h4
      · exact h2 h4
      · omega
    · rw [List.mem_singleton.1 hu] at hx; cases hx
  · rcases hx with hx | hx | ⟨u, hu, hx⟩
    · exact (h5 x hx).imp .inl id
    · exact .inl (.inr (.inl hx))
    · rcases List.mem_append.1 hu with hu | hu
      · exact .inl (.inr (.inr ⟨u, hu, hx⟩))
      · rw [List.mem_singleton.1 hu] at hx; cases hx
/-- have grows by a false. -/
theorem Tab.app6 {w w' : World} {v5 v6 v6' : Value} {hs : List Value} {tl : List (List Fnd)} {bs : List Bool} (h : Tab w v5 v6 hs tl bs) (ho : w'.ownL 4 1 v6' (bs.map (fun b => [.bool b]) ++ [#[Value.bool false].toList])) (hg : Grew w w' v6 v6') :
    Tab w' v5 v6' hs tl (bs ++ [false]) ∧ ∀ x, tabF v5 v6' hs x → tabF v5 v6 hs x ∨ w.heap.size ≤ x := by
  have h6 : ∀ x, v6'.ownBlock = some x → v6.ownBlock = some x ∨ w.heap.size ≤ x := fun x hx => by
    rcases hg.own with h1 | h1
    · exact .inl (h1 ▸ hx)
    · exact .inr (h1 x hx)
  have hsz := hg.g.size
  refine ⟨⟨h.own5.grew hg fun x hx => owns_ne h.own5 h.own6 (by decide) hx, by rw [List.map_append]; exact ho, fun j u l hj hl => (h.rd j u l hj hl).keep fun x hx => hg.keep (h.dh u (List.mem_of_getElem? hj) x hx).1 (h.dh u (List.mem_of_getElem? hj) x hx).2.2, h.len, fun u hu x hx => ?_⟩, fun x hx => ?_⟩
  · obtain ⟨h1, h2, h3⟩ := h.dh u hu x hx
    refine ⟨by omega, h2, fun e => ?_⟩
    rcases h6 x e with h4 | h4
    · exact h3 h4
    · omega
  · rcases hx with hx | hx | hx
    · exact .inl (.inl hx)
    · exact (h6 x hx).imp (fun h => .inr (.inl h)) id
    · exact .inl (.inr (.inr hx))
/-- told[k] is a new list. -/
theorem Tab.put5 {w w' : World} {v5 v6 : Value} {hs : List Value} {tl : List (List Fnd)} {bs : List Bool} (h : Tab w v5 v6 hs tl bs) (k : Nat) (u0 : Value) (l0 : List Fnd) (hr : w.reads 3 u0 (l0.map Fnd.cells)) (hu0 : ∀ x, u0.ownBlock = some x → v5.ownBlock ≠ some x ∧ v6.ownBlock ≠ some x)
    (ho : w'.ownL 73 1 v5 ((hs.map fun h => [h]).set k [u0])) (hg : Grew w w' v5 v5) :
    Tab w' v5 v6 (hs.set k u0) (tl.set k l0) bs ∧ ∀ x, tabF v5 v6 (hs.set k u0) x → tabF v5 v6 hs x ∨ u0.ownBlock = some x := by
  have hsz := hg.g.size
  have hmem : ∀ u, u ∈ hs.set k u0 → u ∈ hs ∨ u = u0 := fun u hu => List.mem_or_eq_of_mem_set hu
  refine ⟨⟨by rw [List.map_set]; exact ho, h.own6.grew hg fun x hx => owns_ne h.own6 h.own5 (by decide) hx, fun j u l hj hl => ?_, by simp [h.len], fun u hu x hx => ?_⟩, fun x hx => ?_⟩
  · by_cases hjk : k = j
    · subst hjk
      rw [List.getElem?_set] at hj hl
      rw [if_pos rfl] at hj hl
      split at hj
      · split at hl
        · injection hj with hj; injection hl with hl
          subst hj hl
          exact hr.keep fun x hx => hg.keep (reads_lt' hr hx) (hu0 x hx).1
        · cases hl
      · cases hj
    · rw [List.getElem?_set_ne hjk] at hj hl
      exact (h.rd j u l hj hl).keep fun x hx => hg.keep (h.dh u (List.mem_of_getElem? hj) x hx).1 (h.dh u (List.mem_of_getElem? hj) x hx).2.1
  · rcases hmem u hu with hu | rfl
    · exact ⟨Nat.lt_of_lt_of_le (h.dh u hu x hx).1 hsz, (h.dh u hu x hx).2⟩
    · exact ⟨Nat.lt_of_lt_of_le (reads_lt' hr hx) hsz, hu0 x hx⟩
  · rcases hx with hx | hx | ⟨u, hu, hx⟩
    · exact .inl (.inl hx)
    · exact .inl (.inr (.inl hx))
    · rcases hmem u hu with hu | rfl
      · exact .inl (.inr (.inr ⟨u, hu, hx⟩))
      · exact .inr hx
/-- have[k] is true. -/
theorem Tab.put6 {w w' : World} {v5 v6 : Value} {hs : List Value} {tl : List (List Fnd)} {bs : List Bool} (h : Tab w v5 v6 hs tl bs) (k : Nat) (b0 : Bool) (ho : w'.ownL 4 1 v6 ((bs.map fun b => [.bool b]).set k [.bool b0])) (hg : Grew w w' v6 v6) : Tab w' v5 v6 hs tl (bs.set k b0) := by
  have hsz := hg.g.size
  exact ⟨h.own5.grew hg fun x hx => owns_ne h.own5 h.own6 (by decide) hx, by rw [List.map_set]; exact ho, fun j u l hj hl => (h.rd j u l hj hl).keep fun x hx => hg.keep (h.dh u (List.mem_of_getElem? hj) x hx).1 (h.dh u (List.mem_of_getElem? hj) x hx).2.2, h.len, fun u hu x hx => ⟨Nat.lt_of_lt_of_le (h.dh u hu x hx).1 hsz, (h.dh u hu x hx).2⟩⟩

/-- A cell of what is owned is written. -/
theorem World.ownL.setCell {w : World} {e : TypeId} {sz : Nat} {g n cap : Nat} {cs : List (List Value)} (h : w.ownL e sz (.slice (some ⟨g, 0, none⟩) n cap) cs) {i j : Nat} {c : List Value} (hi : cs[i]? = some c) (hj : j < sz) (u : Value) :
    (w.setCell ⟨g, i * sz + j, none⟩ u).ownL e sz (.slice (some ⟨g, 0, none⟩) n cap) (cs.set i (c.set j u)) := by
  have hil : i < cs.length := (List.getElem?_eq_some_iff.1 hi).1
  have hcl : c.length = sz := h.2 c (List.mem_of_getElem? hi)
  obtain ⟨h1, h2⟩ := h
  have h2' : ∀ d ∈ cs.set i (c.set j u), d.length = sz := fun d hd => by
    rcases List.mem_or_eq_of_mem_set hd with hd | rfl
    · exact h2 d hd
    · rw [List.length_set]; exact hcl
  rcases h1.2 with ⟨hv, _⟩ | ⟨g', cap', cur, hv, hg, hb, r1, r2, r3, r4⟩
  · cases hv
  · injection hv with e1 e2 e3
    injection e1 with e1
    injection e1 with e1
    subst e1 e2 e3
    have hle : i * sz + j < cs.length * sz := by have := mul_lt_of_lt i cs.length sz hil; omega
    have hlec : cs.length * sz ≤ cap * sz := Nat.mul_le_mul_right _ r1
    have hfl : (cs.set i (c.set j u)).flatten = cs.flatten.set (i * sz + j) u := by
      apply List.ext_getElem?
      intro m
      have hl1 : (cs.set i (c.set j u)).flatten.length = cs.length * sz := by rw [flatten_len sz _ h2', List.length_set]
      have hl2 : cs.flatten.length = cs.length * sz := flatten_len sz _ h2
      by_cases hm : m < cs.length * sz
      · have hsz : 0 < sz := by omega
        have hq : m / sz < cs.length := (Nat.div_lt_iff_lt_mul hsz).2 hm
        have hr := Nat.mod_lt m hsz
        have hm2 : m / sz * sz + m % sz = m := by rw [Nat.mul_comm]; exact Nat.div_add_mod m sz
        by_cases hqi : m / sz = i
        · have e1 := flatten_at sz _ (m / sz) (c.set j u) h2' (by rw [hqi, List.getElem?_set_self hil]) (m % sz) hr
          have e2 := flatten_at sz _ (m / sz) c h2 (by rw [hqi]; exact hi) (m % sz) hr
          rw [hm2] at e1 e2
          rw [e1, List.getElem?_set, List.getElem?_set, e2]
          by_cases hjm : j = m % sz
          · subst hjm
            have : i * sz + m % sz = m := by rw [← hqi]; exact hm2
            rw [if_pos rfl, if_pos this, if_pos (by omega), if_pos (by omega)]
          · rw [if_neg hjm, if_neg (by rw [← hqi]; omega)]
        · have e1 := flatten_at sz _ (m / sz) cs[m / sz] h2' (by rw [List.getElem?_set_ne (fun e => hqi e.symm), List.getElem?_eq_getElem hq]) (m % sz) hr
          have e2 := flatten_at sz _ (m / sz) cs[m / sz] h2 (List.getElem?_eq_getElem hq) (m % sz) hr
          rw [hm2] at e1 e2
          rw [e1, List.getElem?_set_ne, e2]
          intro hx
          have h5 : (i * sz + j) / sz = i := by rw [Nat.mul_comm, Nat.mul_add_div hsz, Nat.div_eq_of_lt hj]; omega
          exact hqi (by rw [← hx]; exact h5)
      · rw [List.getElem?_eq_none (by omega), List.getElem?_eq_none (by rw [List.length_set]; omega)]
    refine ⟨⟨by rw [flatten_len sz _ h2'], .inr ⟨g, cap, cur.setIfInBounds (i * sz + j) u, by rw [List.length_set], hg, ?_, by rw [List.length_set]; exact r1, r2, by simp [r3], ?_⟩⟩, h2'⟩
    · rw [setCell_heapB, if_pos rfl, hb]; rfl
    · rw [List.length_set, hfl, ← r4]
      apply List.ext_getElem?
      intro m
      rw [List.getElem?_set]
      by_cases hm : m < cs.length * sz
      · rw [List.getElem?_take_of_lt hm, Array.toList_setIfInBounds, List.getElem?_set, List.length_take, Array.length_toList]
        by_cases hx : i * sz + j = m
        · rw [if_pos hx, if_pos hx, if_pos (by omega), if_pos (by omega)]
        · rw [if_neg hx, if_neg hx, List.getElem?_take_of_lt hm]
      · rw [List.getElem?_eq_none (by rw [List.length_take]; omega), if_neg (by omega), List.getElem?_eq_none (by rw [List.length_take]; omega)]
end Go.Proofs.Ytcbbnmodjnnbeaa
