/- The program's disk and all its journals, as one. -/
import Derived.Test.YtcbbnmodjnnbeaaJrnG
import Derived.Test.YtcbbnmodjnnbeaaJrnA
import Derived.Test.YtcbbnmodjnnbeaaJrnK
import Derived.Test.YtcbbnmodjnnbeaaJrnJ
set_option linter.unusedSimpArgs false
set_option linter.unusedVariables false
namespace Go.Proofs.Ytcbbnmodjnnbeaa
open Go.RowKit

abbrev Lv := Option (Nat × WSt)
/-- The program's side: js its journals' blocks, F all that it stands on, L: the file that counts and the state of the last one, if it isn't over. -/
structure PX (w : World) (p : Nat) (js : List Nat) (F : Nat → Prop) (D : Dk) (L : Lv) : Prop where
  lt : ∀ x, F x → x < w.heap.size
  jF : ∀ b ∈ js, F b
  is : ∃ v0 v1 kp, (∀ x, footD p v0 v1 x → F x) ∧ (∀ b ∈ js, ¬ footD p v0 v1 b) ∧
    ((L = none ∧ DiskAt w p v0 v1 none kp D ∧ ∀ b ∈ js, w.heap[b]? = some (.cells zeroWal 182)) ∨
     ∃ is j lv k S, js = is ++ [j] ∧ j ∉ is ∧ L = some (k, S) ∧ (k = 0 ∨ k = 1) ∧ LiveAt w p v0 v1 j lv kp D k S ∧ (∀ x, lv.ownBlock = some x → F x ∧ x ∉ js) ∧ ∀ b ∈ is, w.heap[b]? = some (.cells zeroWal 182))
theorem PX.beside {w w' : World} {p : Nat} {js : List Nat} {F S : Nat → Prop} {D : Dk} {L : Lv} (h : PX w p js F D L) (ht : w.turned w' S) (hn : ∀ x, F x → ¬ S x) : PX w' p js F D L := by
  have hk : ∀ x, F x → w'.heap[x]? = w.heap[x]? := fun x hx => ht.block x (h.lt x hx) (hn x hx)
  obtain ⟨v0, v1, kp, h1, h2, h3⟩ := h.is
  refine ⟨fun x hx => Nat.lt_of_lt_of_le (h.lt x hx) ht.size, h.jF, v0, v1, kp, h1, h2, ?_⟩
  rcases h3 with ⟨hL, hd, hz⟩ | ⟨is, j, lv, k, St, hj, hji, hL, hk01, hl, hlv, hz⟩
  · refine .inl ⟨hL, ⟨(hk p (h1 p (.inl rfl))).trans hd.blk, hd.kq, hd.kb, hd.db, hd.o0.keep fun x hx => hk x (h1 x (.inr (.inl hx))), hd.o1.keep fun x hx => hk x (h1 x (.inr (.inr hx))), hd.n0, hd.n1, hd.dis, hd.fit, fun j hj => by cases hj⟩, fun b hb => (hk b (h.jF b hb)).trans (hz b hb)⟩
  · have hjF : F j := h.jF j (by rw [hj]; simp)
    refine .inr ⟨is, j, lv, k, St, hj, hji, hL, hk01, ⟨⟨(hk p (h1 p (.inl rfl))).trans hl.disk.blk, hl.disk.kq, hl.disk.kb, hl.disk.db, hl.disk.o0.keep fun x hx => hk x (h1 x (.inr (.inl hx))), hl.disk.o1.keep fun x hx => hk x (h1 x (.inr (.inr hx))), hl.disk.n0, hl.disk.n1, hl.disk.dis, hl.disk.fit, fun j' hj' => ?_⟩, hl.st.keep (hk j hjF) fun x hx => hk x (hlv x hx).1, hl.sep⟩, hlv, fun b hb => (hk b (h.jF b (by rw [hj]; simp [hb]))).trans (hz b hb)⟩
    obtain ⟨a, b, c, cs, d, e⟩ := hl.disk.jb j' hj'
    injection hj' with hj'
    subst hj'
    exact ⟨a, b, c, cs, d, (hk _ hjF).trans e⟩
theorem PX.grown {w w' : World} {p : Nat} {js : List Nat} {F : Nat → Prop} {D : Dk} {L : Lv} (h : PX w p js F D L) (hb : Below w.heap.size w w') : PX w' p js F D L :=
  h.beside (World.turned.of_below hb fun _ => False) fun _ _ h => h
/-- What a call leaves of the program's side. -/
def XOut (w w' : World) (p : Nat) (js : List Nat) (F : Nat → Prop) (D : Dk) (L : Lv) : Prop := ∃ F' : Nat → Prop, PX w' p js F' D L ∧ (∀ x, F' x → F x ∨ w.heap.size ≤ x) ∧ w.turned w' F
theorem XOut.below {w w' : World} {p : Nat} {js : List Nat} {F : Nat → Prop} {D : Dk} {L : Lv} (h : PX w p js F D L) (hb : Below w.heap.size w w') : XOut w w' p js F D L := ⟨F, h.grown hb, fun x hx => .inl hx, World.turned.of_below hb _⟩
theorem xNew (w : World) : Calls Try.prog 39 #[] w fun e w' => ∃ p, e = .returned (.pointer (some ⟨p, 0, none⟩)) ∧ w.heap.size ≤ p ∧ PX w' p [] (fun x => x = p) Dk.zero none ∧ Below w.heap.size w w' := by
  refine (walNewDisk w).mono ?_
  rintro e w' ⟨p, rfl, hd, hp, hb⟩
  have hf : ∀ x, footD p (.slice none 0 0) (.slice none 0 0) x → x = p := fun x hx => by
    rcases hx with h | h | h
    · exact h
    · cases h
    · cases h
  exact ⟨p, rfl, hp, ⟨fun x hx => by rw [hx]; exact hd.lt, (fun b hb => by cases hb), _, _, _, hf, (fun b hb => by cases hb), .inl ⟨rfl, hd, fun b hb => by cases hb⟩⟩, hb⟩
theorem xOpen (w : World) (p : Nat) (js : List Nat) (F : Nat → Prop) (D : Dk) (L : Lv) (h : PX w p js F D L) (hcm : D.Calm) (m : Nat) (hle : D.Le m) (hm : m ≤ 100000000) (hm0 : 100 ≤ m) :
    Calls Try.prog 40 #[.pointer (some ⟨p, 0, none⟩)] w fun e w' => ∃ j, e = .returned (.tuple #[.pointer (some ⟨j, 0, none⟩), .int .i64 0]) ∧ w.heap.size ≤ j ∧ XOut w w' p (js ++ [j]) F D.opened (some (D.found.1, told D.found.2)) := by
  obtain ⟨v0, v1, kp, h1, h2, h3⟩ := h.is
  have hfl : D.found.2.length ≤ 100000000 := by
    have a := jrnL_len D.found.2
    have b := found_le hle hm0
    omega
  have key : ∀ (J : Option Nat), DiskAt w p v0 v1 J kp D → (∀ b ∈ js, J ≠ some b → w.heap[b]? = some (.cells zeroWal 182)) → (∀ b, J = some b → F b) →
      Calls Try.prog 40 #[.pointer (some ⟨p, 0, none⟩)] w fun e w' => ∃ j, e = .returned (.tuple #[.pointer (some ⟨j, 0, none⟩), .int .i64 0]) ∧ w.heap.size ≤ j ∧ XOut w w' p (js ++ [j]) F D.opened (some (D.found.1, told D.found.2)) := by
    intro J hd hz hJF
    refine (walOpen w p v0 v1 J kp D hd hcm (by have := hle.e0; omega) (by have := hle.e1; omega) hfl).mono ?_
    rintro e w' ⟨j, u0, u1, lv, rfl, hl, hj, hf, hzz, ht⟩
    have hjs : ∀ b ∈ js, b < w.heap.size := fun b hb => h.lt b (h.jF b hb)
    have hjn : j ∉ js := fun hb => by have := hjs j hb; omega
    have hfx : ∀ x, footV p u0 u1 j lv x → F x ∨ w.heap.size ≤ x := fun x hx => (hf x hx).imp (h1 x) id
    have hz' : ∀ b ∈ js, w'.heap[b]? = some (.cells zeroWal 182) := by
      intro b hb
      by_cases hJ : J = some b
      · exact hzz b hJ
      · refine (ht.block b (hjs b hb) fun e => ?_).trans (hz b hb hJ)
        rcases e with e | e
        · exact h2 b hb (.inl e)
        · exact hJ e
    refine ⟨j, rfl, hj, fun x => F x ∨ footV p u0 u1 j lv x, ⟨fun x hx => ?_, fun b hb => ?_, u0, u1, kp, fun x hx => .inr (.inl hx), fun b hb hf' => ?_, .inr ⟨js, j, lv, D.found.1, told D.found.2, rfl, hjn, rfl, D.found_ok.2.2, hl, fun x hx => ⟨.inr (.inr (.inr hx)), fun hb => ?_⟩, hz'⟩⟩, fun x hx => ?_, ht.mono fun x _ hx => ?_⟩
    · rcases hx with hx | hx
      · exact Nat.lt_of_lt_of_le (h.lt x hx) ht.size
      · exact hl.lt hx
    · rcases List.mem_append.1 hb with hb | hb
      · exact .inl (h.jF b hb)
      · rw [List.mem_singleton.1 hb]; exact .inr (.inr (.inl rfl))
    · rcases List.mem_append.1 hb with hb | hb
      · rcases hf b (.inl hf') with e | e
        · exact h2 b hb e
        · have := hjs b hb; omega
      · rw [List.mem_singleton.1 hb] at hf'; exact hl.njf hf'
    · rcases List.mem_append.1 hb with hb | hb
      · rcases hf x (.inr (.inr hx)) with e | e
        · exact h2 x hb e
        · have := hjs x hb; omega
      · rw [List.mem_singleton.1 hb] at hx
        obtain ⟨a, b⟩ := hl.st.sep, hl.st.log.lt hx
        exact hl.st.sep hx
    · rcases hx with hx | hx
      · exact .inl hx
      · exact hfx x hx
    · rcases hx with rfl | hx
      · exact h1 _ (.inl rfl)
      · exact hJF x hx
  rcases h3 with ⟨hL, hd, hz⟩ | ⟨is, j, lv, k, St, hj, hji, hL, hk01, hl, hlv, hz⟩
  · exact key none hd (fun b hb _ => hz b hb) (fun b hb => by cases hb)
  · refine key (some j) hl.disk (fun b hb hne => ?_) fun b hb => ?_
    · rw [hj] at hb
      rcases List.mem_append.1 hb with hb | hb
      · exact hz b hb
      · exact absurd (by rw [List.mem_singleton.1 hb]) hne
    · injection hb with hb; subst hb; exact h.jF _ (by rw [hj]; simp)
theorem xBreak (w : World) (p : Nat) (js : List Nat) (F : Nat → Prop) (D : Dk) (L : Lv) (h : PX w p js F D L) (x y : Int) (hx : x < 9223372036854775808) (hy : -9223372036854775808 ≤ y ∧ y < 9223372036854775808) :
    Calls Try.prog 84 #[.pointer (some ⟨p, 0, none⟩), .int .i64 x, .int .i64 y] w fun e w' => e = .returned (.int .i64 (if x < 0 then 2 else 0)) ∧ XOut w w' p js F (if x < 0 then D else { D with due := x.toNat, keep := y }) L := by
  obtain ⟨v0, v1, kp, h1, h2, h3⟩ := h.is
  rcases h3 with ⟨hL, hd, hz⟩ | ⟨is, j, lv, k, St, hj, hji, hL, hk01, hl, hlv, hz⟩
  · refine (walBreak w p v0 v1 none kp D hd x y hx hy).mono ?_
    rintro e w' ⟨rfl, hd', ht⟩
    have hn : ∀ b ∈ js, b ≠ p := fun b hb e => h2 b hb (.inl e)
    exact ⟨rfl, F, ⟨fun x hx => Nat.lt_of_lt_of_le (h.lt x hx) ht.size, h.jF, v0, v1, _, h1, h2, .inl ⟨hL, hd', fun b hb => (ht.block b (h.lt b (h.jF b hb)) (hn b hb)).trans (hz b hb)⟩⟩, fun x hx => .inl hx, ht.mono fun k _ e => e ▸ h1 p (.inl rfl)⟩
  · refine (walBreak w p v0 v1 (some j) kp D hl.disk x y hx hy).mono ?_
    rintro e w' ⟨rfl, hd', ht⟩
    have hn : ∀ b ∈ js, b ≠ p := fun b hb e => h2 b hb (.inl e)
    have hjj : j ∈ js := by rw [hj]; simp
    refine ⟨rfl, F, ⟨fun x hx => Nat.lt_of_lt_of_le (h.lt x hx) ht.size, h.jF, v0, v1, _, h1, h2, .inr ⟨is, j, lv, k, St, hj, hji, hL, hk01, ⟨hd', hl.st.keep (ht.block j hl.st.lt (hn j hjj)) fun x hx => ht.block x (hl.st.log.lt hx) fun e => hl.sep x hx (.inl e), hl.sep⟩, hlv, fun b hb => ?_⟩⟩, fun x hx => .inl hx, ht.mono fun k _ e => e ▸ h1 p (.inl rfl)⟩
    have hb' : b ∈ js := by rw [hj]; simp [hb]
    exact (ht.block b (h.lt b (h.jF b hb')) (hn b hb')).trans (hz b hb)
theorem xCrash (w : World) (p : Nat) (js : List Nat) (F : Nat → Prop) (D : Dk) (L : Lv) (h : PX w p js F D L) (keep : Int) (hk0 : -9223372036854775808 ≤ keep) (hk1 : keep < 9223372036854775808) :
    Calls Try.prog 44 #[.pointer (some ⟨p, 0, none⟩), .int .i64 keep] w fun e w' => e = .returned (.tuple #[]) ∧ XOut w w' p js F (D.crash keep) none := by
  obtain ⟨v0, v1, kp, h1, h2, h3⟩ := h.is
  have key : ∀ (J : Option Nat), DiskAt w p v0 v1 J kp D → (∀ b ∈ js, J ≠ some b → w.heap[b]? = some (.cells zeroWal 182)) → (∀ b, J = some b → F b) →
      Calls Try.prog 44 #[.pointer (some ⟨p, 0, none⟩), .int .i64 keep] w fun e w' => e = .returned (.tuple #[]) ∧ XOut w w' p js F (D.crash keep) none := by
    intro J hd hz hJF
    refine (walCrash w p v0 v1 J kp D keep hd hk0 hk1).mono ?_
    rintro e w' ⟨rfl, u0, u1, hd', e0, e1, hzz, ht⟩
    have hf : ∀ x, footD p u0 u1 x → footD p v0 v1 x := footD_same e0 e1
    refine ⟨rfl, F, ⟨fun x hx => Nat.lt_of_lt_of_le (h.lt x hx) ht.size, h.jF, u0, u1, _, fun x hx => h1 x (hf x hx), fun b hb hx => h2 b hb (hf b hx), .inl ⟨rfl, hd', fun b hb => ?_⟩⟩, fun x hx => .inl hx, ht.mono fun k _ e => ?_⟩
    · by_cases hJ : J = some b
      · exact hzz b hJ
      · refine (ht.block b (h.lt b (h.jF b hb)) fun e => ?_).trans (hz b hb hJ)
        rcases e with e | e
        · exact h2 b hb (.inl e)
        · exact hJ e
    · rcases e with rfl | e
      · exact h1 _ (.inl rfl)
      · exact hJF k e
  rcases h3 with ⟨hL, hd, hz⟩ | ⟨is, j, lv, k, St, hj, hji, hL, hk01, hl, hlv, hz⟩
  · exact key none hd (fun b hb _ => hz b hb) (fun b hb => by cases hb)
  · refine key (some j) hl.disk (fun b hb hne => ?_) fun b hb => ?_
    · rw [hj] at hb
      rcases List.mem_append.1 hb with hb | hb
      · exact hz b hb
      · exact absurd (by rw [List.mem_singleton.1 hb]) hne
    · injection hb with hb; subst hb; exact h.jF _ (by rw [hj]; simp)
theorem xFile (w : World) (p : Nat) (js : List Nat) (F : Nat → Prop) (D : Dk) (L : Lv) (h : PX w p js F D L) (m : Nat) (hle : D.Le m) (hm : m ≤ 100000000) (x : Int) :
    Calls Try.prog 87 #[.pointer (some ⟨p, 0, none⟩), .int .i64 x] w fun e w' => e = .returned (.tuple #[.string (if x = 0 then B D.b0 else if x = 1 then B D.b1 else ⟨#[]⟩), .int .i64 (if x = 0 ∨ x = 1 then 0 else 7)]) ∧ Below w.heap.size w w' := by
  obtain ⟨v0, v1, kp, h1, h2, h3⟩ := h.is
  have a := hle.e0
  have b := hle.e1
  rcases h3 with ⟨hL, hd, hz⟩ | ⟨is, j, lv, k, St, hj, hji, hL, hk01, hl, hlv, hz⟩
  · exact walFile w p v0 v1 none kp D hd x (by omega) (by omega)
  · exact walFile w p v0 v1 (some j) kp D hl.disk x (by omega) (by omega)
theorem PX.jout {w w' : World} {p : Nat} {js : List Nat} {F : Nat → Prop} {D : Dk} {L : Lv} (h : PX w p js F D L) {v0 v1 lv : Value} {is : List Nat} {j : Nat} (hF : ∀ x, footV p v0 v1 j lv x → F x) (hj : js = is ++ [j]) (hji : j ∉ is) (h2 : ∀ b ∈ js, ¬ footD p v0 v1 b) (hlv : ∀ x, lv.ownBlock = some x → x ∉ js) (hz : ∀ b ∈ is, w.heap[b]? = some (.cells zeroWal 182)) {r : Bool × Dk} {k : Nat} (hk : k = 0 ∨ k = 1) {S : WSt} (ho : JOut w w' p v0 v1 j lv r k S) : XOut w w' p js F r.2 (if r.1 = true then some (k, S) else none) := by
  obtain ⟨u0, u1, kp', lv', a, b, c, d⟩ := ho
  have hjs : ∀ b ∈ js, b < w.heap.size := fun b hb => h.lt b (h.jF b hb)
  have hz' : ∀ b ∈ is, w'.heap[b]? = some (.cells zeroWal 182) := by
    intro b hb
    have hbj : b ∈ js := by rw [hj]; simp [hb]
    refine (d.block b (hjs b hbj) fun e => ?_).trans (hz b hb)
    rcases e with e | e | e
    · exact h2 b hbj e
    · exact hji (e ▸ hb)
    · exact hlv b e hbj
  have hfd : ∀ b ∈ js, ¬ footD p u0 u1 b := by
    intro x hx hf
    rcases c x (.inl hf) with e | e
    · rcases e with e | e | e
      · exact h2 x hx e
      · -- j itself
        subst e
        cases hr : r.1 with
        | true => exact (a hr).njf hf
        | false =>
          obtain ⟨hd, hzj⟩ := b hr
          rcases hf with hf | hf | hf
          · exact h2 x hx (.inl hf)
          · have h5 := hd.o0
            rcases h5.2 with ⟨h6, _⟩ | ⟨g, cc, cur, h6, _, h7, _⟩
            · rw [h6] at hf; cases hf
            · rw [h6] at hf
              have : g = x := by injection hf
              subst this
              rw [hzj] at h7; simp [zeroWal] at h7
          · have h5 := hd.o1
            rcases h5.2 with ⟨h6, _⟩ | ⟨g, cc, cur, h6, _, h7, _⟩
            · rw [h6] at hf; cases hf
            · rw [h6] at hf
              have : g = x := by injection hf
              subst this
              rw [hzj] at h7; simp [zeroWal] at h7
      · exact hlv x e hx
    · have := hjs x hx; omega
  refine ⟨fun x => F x ∨ footD p u0 u1 x ∨ (r.1 = true ∧ lv'.ownBlock = some x), ⟨fun x hx => ?_, fun b hb => .inl (h.jF b hb), u0, u1, kp', fun x hx => .inr (.inl hx), hfd, ?_⟩, fun x hx => ?_, d.mono fun x _ hx => hF x hx⟩
  · rcases hx with hx | hx | ⟨hr, hx⟩
    · exact Nat.lt_of_lt_of_le (h.lt x hx) d.size
    · cases hr : r.1 with
      | true => exact (a hr).disk.foot_lt hx
      | false => exact (b hr).1.foot_lt hx
    · exact (a hr).st.log.lt hx
  · cases hr : r.1 with
    | true =>
      refine .inr ⟨is, j, lv', k, S, hj, hji, by rw [if_pos rfl], hk, a hr, fun x hx => ⟨.inr (.inr ⟨rfl, hx⟩), fun hb => ?_⟩, hz'⟩
      rcases c x (.inr ⟨hr, hx⟩) with e | e
      · rcases e with e | e | e
        · exact h2 x hb e
        · exact (a hr).st.sep (e ▸ hx)
        · exact hlv x e hb
      · have := hjs x hb; omega
    | false =>
      obtain ⟨hd, hzj⟩ := b hr
      refine .inl ⟨by rw [if_neg (by decide)], hd, fun b hb => ?_⟩
      rw [hj] at hb
      rcases List.mem_append.1 hb with hb | hb
      · exact hz' b hb
      · rw [List.mem_singleton.1 hb]; exact hzj
  · rcases hx with hx | hx | hx
    · exact .inl hx
    · exact (c x (.inl hx)).imp (hF x) id
    · exact (c x (.inr hx)).imp (hF x) id
/-- What a Write gives: n journals, the one with number i. -/
def lWrite (n : Nat) (D : Dk) (L : Lv) (i : Nat) (rs : List Rec) : Int × Dk × Lv :=
  match L with
  | none => (4, D, none)
  | some (k, S) => if i + 1 = n then ((wWrite D k S rs).1, (wWrite D k S rs).2.1.2, if (wWrite D k S rs).2.1.1 = true then some (k, (wWrite D k S rs).2.2) else none) else (4, D, some (k, S))
def lRewrite (n : Nat) (D : Dk) (L : Lv) (i : Nat) (N : WSt) : Int × Dk × Lv :=
  match L with
  | none => (4, D, none)
  | some (k, S) => if i + 1 = n then ((wRewrite D k S N).1, (wRewrite D k S N).2.1.2, if (wRewrite D k S N).2.1.1 = true then some ((wRewrite D k S N).2.2.1, (wRewrite D k S N).2.2.2) else none) else (4, D, some (k, S))
def lState (n : Nat) (L : Lv) (i : Nat) : WSt × Int :=
  match L with
  | none => (WSt.zero, 4)
  | some (_, S) => if i + 1 = n then (S, 0) else (WSt.zero, 4)
theorem last_at {is : List Nat} {j b : Nat} {i : Nat} (h : (is ++ [j])[i]? = some b) : (i + 1 = (is ++ [j]).length ∧ b = j) ∨ (i + 1 ≠ (is ++ [j]).length ∧ b ∈ is) := by
  by_cases hi : i < is.length
  · rw [List.getElem?_append_left hi] at h
    exact .inr ⟨by simp; omega, List.mem_of_getElem? h⟩
  · rw [List.getElem?_append_right (by omega)] at h
    have : i - is.length = 0 := by
      have := (List.getElem?_eq_some_iff.1 h).1
      simp at this; omega
    rw [this] at h
    simp at h
    exact .inl ⟨by simp; omega, h.symm⟩
theorem xWrite (w : World) (p : Nat) (js : List Nat) (F : Nat → Prop) (D : Dk) (L : Lv) (h : PX w p js F D L) (i b : Nat) (hi : js[i]? = some b) (a : Option Addr) (cap : Nat) (rs : List Rec) (hr : w.reads 14 (.slice a rs.length cap) (rs.map Rec.cells)) (hcap : rs.length ≤ cap) (hcm : cap ≤ maxLen)
    (hsep : ∀ x, (Value.slice a rs.length cap).ownBlock = some x → ¬ F x) (hLv : ∀ k S, L = some (k, S) → ∃ l, Liv D k S l) (m : Nat) (hle : D.Le m) (hm : m ≤ 100000000) (hn : rs.length ≤ 10000000) (hl : (jrnL rs).length ≤ 100000000) :
    Calls Try.prog 41 #[.pointer (some ⟨b, 0, none⟩), .slice a rs.length cap] w fun e w' => e = .returned (.int .i64 (lWrite js.length D L i rs).1) ∧ XOut w w' p js F (lWrite js.length D L i rs).2.1 (lWrite js.length D L i rs).2.2 := by
  obtain ⟨v0, v1, kp, h1, h2, h3⟩ := h.is
  have over : (lWrite js.length D L i rs = (4, D, L)) → w.heap[b]? = some (.cells zeroWal 182) → Calls Try.prog 41 #[.pointer (some ⟨b, 0, none⟩), .slice a rs.length cap] w fun e w' => e = .returned (.int .i64 (lWrite js.length D L i rs).1) ∧ XOut w w' p js F (lWrite js.length D L i rs).2.1 (lWrite js.length D L i rs).2.2 := by
    intro he hz
    rw [he]
    refine (walWriteOver w b hz a rs.length cap).mono ?_
    rintro e w' ⟨rfl, hb⟩
    exact ⟨rfl, XOut.below h hb⟩
  rcases h3 with ⟨hL, hd, hz⟩ | ⟨is, j, lv, k, St, hj, hji, hL, hk01, hl', hlv, hz⟩
  · exact over (by rw [hL]; rfl) (hz b (List.mem_of_getElem? hi))
  · rw [hj] at hi
    rcases last_at hi with ⟨hi1, hbj⟩ | ⟨hi1, hb⟩
    · rw [hbj]
      obtain ⟨l, hli⟩ := hLv k St hL
      have hg := hli.gen
      have hlen := (hli.len hle).1
      have hFV : ∀ x, footV p v0 v1 j lv x → F x := fun x hx => by
        rcases hx with hx | rfl | hx
        · exact h1 x hx
        · exact h.jF _ (by rw [hj]; simp)
        · exact (hlv x hx).1
      have he : lWrite js.length D L i rs = ((wWrite D k St rs).1, (wWrite D k St rs).2.1.2, if (wWrite D k St rs).2.1.1 = true then some (k, (wWrite D k St rs).2.2) else none) := by
        rw [hL, hj]; simp only [lWrite]; rw [if_pos hi1]
      rw [he]
      refine (walWrite w p v0 v1 j lv kp D k St hl' hk01 a cap rs hr hcap hcm (fun x hx hf => hsep x hx (hFV x hf)) (by omega) (by omega) hl (by have := hle.file k; omega)).mono ?_
      rintro e w' ⟨rfl, hjo⟩
      exact ⟨rfl, h.jout hFV hj hji h2 (fun x hx => (hlv x hx).2) hz hk01 hjo⟩
    · exact over (by rw [hL, hj]; simp only [lWrite]; rw [if_neg hi1]) (hz b hb)
theorem wRewrite_k (D : Dk) (k : Nat) (S N : WSt) (hk : k = 0 ∨ k = 1) : (wRewrite D k S N).2.2.1 = 0 ∨ (wRewrite D k S N).2.2.1 = 1 := by
  unfold wRewrite
  split
  · split
    · show 1 - k = 0 ∨ 1 - k = 1; omega
    · exact hk
  · exact hk
theorem xRewrite (w : World) (p : Nat) (js : List Nat) (F : Nat → Prop) (D : Dk) (L : Lv) (h : PX w p js F D L) (i b : Nat) (hi : js[i]? = some b) (N : WSt) (a : Option Addr) (cap : Nat) (hr : N.log ≠ [] → w.reads 8 (.slice a N.log.length cap) (N.log.map Ety.cells))
    (hLv : ∀ k S, L = some (k, S) → ∃ l, Liv D k S l) (m : Nat) (hle : D.Le m) (hm : m ≤ 100000000) (hn : N.log.length ≤ 10000000) (hl : ∀ g, (jrnL ({ N with gen := g } : WSt).recs).length ≤ 100000000) :
    Calls Try.prog 100 #[.pointer (some ⟨b, 0, none⟩), .agg (N.cellsA (.slice a N.log.length cap)).toArray] w fun e w' => e = .returned (.int .i64 (lRewrite js.length D L i N).1) ∧ XOut w w' p js F (lRewrite js.length D L i N).2.1 (lRewrite js.length D L i N).2.2 := by
  obtain ⟨v0, v1, kp, h1, h2, h3⟩ := h.is
  have over : (lRewrite js.length D L i N = (4, D, L)) → w.heap[b]? = some (.cells zeroWal 182) → Calls Try.prog 100 #[.pointer (some ⟨b, 0, none⟩), .agg (N.cellsA (.slice a N.log.length cap)).toArray] w fun e w' => e = .returned (.int .i64 (lRewrite js.length D L i N).1) ∧ XOut w w' p js F (lRewrite js.length D L i N).2.1 (lRewrite js.length D L i N).2.2 := by
    intro he hz
    rw [he]
    refine (walRewriteOver w b hz N a N.log.length cap).mono ?_
    rintro e w' ⟨rfl, hb⟩
    exact ⟨rfl, XOut.below h hb⟩
  rcases h3 with ⟨hL, hd, hz⟩ | ⟨is, j, lv, k, St, hj, hji, hL, hk01, hl', hlv, hz⟩
  · exact over (by rw [hL]; rfl) (hz b (List.mem_of_getElem? hi))
  · rw [hj] at hi
    rcases last_at hi with ⟨hi1, hbj⟩ | ⟨hi1, hb⟩
    · rw [hbj]
      obtain ⟨l, hli⟩ := hLv k St hL
      have hg := hli.gen
      have hFV : ∀ x, footV p v0 v1 j lv x → F x := fun x hx => by
        rcases hx with hx | rfl | hx
        · exact h1 x hx
        · exact h.jF _ (by rw [hj]; simp)
        · exact (hlv x hx).1
      have he : lRewrite js.length D L i N = ((wRewrite D k St N).1, (wRewrite D k St N).2.1.2, if (wRewrite D k St N).2.1.1 = true then some ((wRewrite D k St N).2.2.1, (wRewrite D k St N).2.2.2) else none) := by
        rw [hL, hj]; simp only [lRewrite]; rw [if_pos hi1]
      rw [he]
      refine (walRewrite w p v0 v1 j lv kp D k St hl' hk01 N a cap hr (by omega) hn (hl _) (by have := hle.file (1 - k); omega)).mono ?_
      rintro e w' ⟨rfl, hjo⟩
      exact ⟨rfl, h.jout hFV hj hji h2 (fun x hx => (hlv x hx).2) hz (wRewrite_k D k St N hk01) hjo⟩
    · exact over (by rw [hL, hj]; simp only [lRewrite]; rw [if_neg hi1]) (hz b hb)
theorem xState (w : World) (p : Nat) (js : List Nat) (F : Nat → Prop) (D : Dk) (L : Lv) (h : PX w p js F D L) (i b : Nat) (hi : js[i]? = some b) (hLv : ∀ k S, L = some (k, S) → ∃ l, Liv D k S l) (m : Nat) (hle : D.Le m) (hm : m ≤ 100000000) :
    Calls Try.prog 42 #[.pointer (some ⟨b, 0, none⟩)] w fun e w' => ∃ lv, e = .returned (.tuple #[.agg ((lState js.length L i).1.cellsA lv).toArray, .int .i64 (lState js.length L i).2]) ∧ w'.ownL 135 8 lv ((lState js.length L i).1.log.map Ety.cells) ∧ (∀ k, lv.ownBlock = some k → w.heap.size ≤ k) ∧ ((lState js.length L i).2 ≠ 0 → lv = .slice none 0 0) ∧ Below w.heap.size w w' := by
  obtain ⟨v0, v1, kp, h1, h2, h3⟩ := h.is
  have over : (lState js.length L i = (WSt.zero, 4)) → w.heap[b]? = some (.cells zeroWal 182) → Calls Try.prog 42 #[.pointer (some ⟨b, 0, none⟩)] w fun e w' => ∃ lv, e = .returned (.tuple #[.agg ((lState js.length L i).1.cellsA lv).toArray, .int .i64 (lState js.length L i).2]) ∧ w'.ownL 135 8 lv ((lState js.length L i).1.log.map Ety.cells) ∧ (∀ k, lv.ownBlock = some k → w.heap.size ≤ k) ∧ ((lState js.length L i).2 ≠ 0 → lv = .slice none 0 0) ∧ Below w.heap.size w w' := by
    intro he hz
    rw [he]
    refine (walStateOver w b hz).mono ?_
    rintro e w' ⟨rfl, hb⟩
    exact ⟨_, rfl, World.ownL.nil _ _ _, (fun k hk => by cases hk), fun _ => rfl, hb⟩
  rcases h3 with ⟨hL, hd, hz⟩ | ⟨is, j, lv, k, St, hj, hji, hL, hk01, hl', hlv, hz⟩
  · exact over (by rw [hL]; rfl) (hz b (List.mem_of_getElem? hi))
  · rw [hj] at hi
    rcases last_at hi with ⟨hi1, hbj⟩ | ⟨hi1, hb⟩
    · rw [hbj]
      obtain ⟨l, hli⟩ := hLv k St hL
      have hlen := (hli.len hle).1
      have he : lState js.length L i = (St, 0) := by rw [hL, hj]; simp only [lState]; rw [if_pos hi1]
      rw [he]
      refine (walState w p j k lv St hl'.st (by omega)).mono ?_
      rintro e w' ⟨lv', rfl, a, b, c⟩
      exact ⟨lv', rfl, a, b, fun h => absurd rfl h, c⟩
    · exact over (by rw [hL, hj]; simp only [lState]; rw [if_neg hi1]) (hz b hb)
end Go.Proofs.Ytcbbnmodjnnbeaa
/- The document's disk and all its journals, as one. -/
set_option linter.unusedSimpArgs false
set_option linter.unusedVariables false
namespace Go.Proofs.Ytcbbnmodjnnbeaa
open Go.RowKit

def userOf (n : Nat) (L : Lv) : Nat := if L.isSome = true then n else 0
/-- The document's side: ys its journals' blocks. -/
structure PY (w : World) (q : Nat) (ys : List Nat) (D : Dk) (L : Lv) : Prop where
  rd : ∃ kq, RD w q D kq (userOf ys.length L) ys.length
  yb : ∀ i b, ys[i]? = some b → b ≠ q ∧ ∃ c : Nat, (c = 0 ∨ c = 1) ∧ w.heap[b]? = some (.cells #[.pointer (some ⟨q, 0, none⟩), .int .i64 ((i + 1 : Nat) : Int), .int .i64 c] 224)
  live : ∀ k S, L = some (k, S) → (k = 0 ∨ k = 1) ∧ ys ≠ [] ∧ (∃ rs, Liv D k S rs) ∧ ∀ i b, ys[i]? = some b → i + 1 = ys.length → w.heap[b]? = some (.cells #[.pointer (some ⟨q, 0, none⟩), .int .i64 ((i + 1 : Nat) : Int), .int .i64 k] 224)
def footY (q : Nat) (ys : List Nat) (x : Nat) : Prop := x = q ∨ x ∈ ys
section
variable {w w' : World} {q : Nat} {ys : List Nat} {D : Dk} {L : Lv}
theorem PY.lt (h : PY w q ys D L) {x : Nat} (hx : footY q ys x) : x < w.heap.size := by
  rcases hx with rfl | hx
  · obtain ⟨kq, hr⟩ := h.rd; exact hr.lt
  · obtain ⟨i, hi⟩ := List.mem_iff_getElem?.1 hx
    obtain ⟨_, c, _, hb⟩ := h.yb i x hi
    exact (Array.getElem?_eq_some_iff.1 hb).1
theorem PY.beside {S : Nat → Prop} (h : PY w q ys D L) (ht : w.turned w' S) (hn : ∀ x, footY q ys x → ¬ S x) : PY w' q ys D L := by
  have hk : ∀ x, footY q ys x → w'.heap[x]? = w.heap[x]? := fun x hx => ht.block x (h.lt hx) (hn x hx)
  obtain ⟨kq, hr⟩ := h.rd
  refine ⟨⟨kq, hr.keep (hk q (.inl rfl))⟩, fun i b hi => ?_, fun k S hL => ?_⟩
  · obtain ⟨a, c, hc, hb⟩ := h.yb i b hi
    exact ⟨a, c, hc, (hk b (.inr (List.mem_of_getElem? hi))).trans hb⟩
  · obtain ⟨a, b, c, d⟩ := h.live k S hL
    exact ⟨a, b, c, fun i b hi hil => (hk b (.inr (List.mem_of_getElem? hi))).trans (d i b hi hil)⟩
theorem PY.grown (h : PY w q ys D L) (hb : Below w.heap.size w w') : PY w' q ys D L := h.beside (World.turned.of_below hb fun _ => False) fun _ _ h => h
/-- Only the last journal's word of the file that counts, and the disk itself, may turn. -/
theorem PY.turn {D' : Dk} {L' : Lv} (h : PY w q ys D L) {b : Nat} (kq : Int) (hr : RD w' q D' kq (userOf ys.length L') ys.length) {i k0 : Nat} (hi : ys[i]? = some b) (hil : i + 1 = ys.length) (hk0 : k0 = 0 ∨ k0 = 1) (hb : w'.heap[b]? = some (.cells #[.pointer (some ⟨q, 0, none⟩), .int .i64 ((i + 1 : Nat) : Int), .int .i64 k0] 224)) (ht : w.turned w' (fun x => x = q ∨ x = b))
    (hL : ∀ k S, L' = some (k, S) → k = k0 ∧ ∃ rs, Liv D' k S rs) : PY w' q ys D' L' := by
  refine ⟨⟨kq, hr⟩, fun j x hj => ?_, fun k S hk => ?_⟩
  · obtain ⟨a, c, hc, hx⟩ := h.yb j x hj
    refine ⟨a, ?_⟩
    by_cases hxb : x = b
    · subst hxb
      obtain ⟨_, c2, _, hx2⟩ := h.yb i x hi
      have hij : i = j := by
        rw [hx] at hx2
        simp at hx2
        omega
      subst hij
      exact ⟨k0, hk0, hb⟩
    · exact ⟨c, hc, (ht.block x (h.lt (.inr (List.mem_of_getElem? hj))) (fun e => e.elim a hxb)).trans hx⟩
  · obtain ⟨rfl, hl⟩ := hL k S hk
    refine ⟨hk0, (fun e => by rw [e] at hi; cases hi), hl, fun j x hj hjl => ?_⟩
    have hij : j = i := by omega
    subst hij
    rw [hi] at hj
    injection hj with hj
    subst hj
    exact hb
end
def YOut (w w' : World) (q : Nat) (ys : List Nat) (D : Dk) (L : Lv) : Prop := PY w' q ys D L ∧ w.turned w' (footY q ys)
theorem YOut.below {w w' : World} {q : Nat} {ys : List Nat} {D : Dk} {L : Lv} (h : PY w q ys D L) (hb : Below w.heap.size w w') : YOut w w' q ys D L := ⟨h.grown hb, World.turned.of_below hb _⟩
theorem yNew (w : World) : Calls Try.prog 82 #[] w fun e w' => ∃ q, e = .returned (.pointer (some ⟨q, 0, none⟩)) ∧ w.heap.size ≤ q ∧ PY w' q [] Dk.zero none ∧ Below w.heap.size w w' := by
  refine (refNewDisk w).mono ?_
  rintro e w' ⟨q, rfl, hr, hq, hb⟩
  exact ⟨q, rfl, hq, ⟨⟨0, hr⟩, (fun i b hi => by cases hi), fun k S hL => by cases hL⟩, hb⟩
theorem yBreak (w : World) (q : Nat) (ys : List Nat) (D : Dk) (L : Lv) (h : PY w q ys D L) (x y : Int) (hx : x < 9223372036854775808) (hy : -9223372036854775808 ≤ y ∧ y < 9223372036854775808) :
    Calls Try.prog 85 #[.pointer (some ⟨q, 0, none⟩), .int .i64 x, .int .i64 y] w fun e w' => e = .returned (.int .i64 (if x < 0 then 2 else 0)) ∧ YOut w w' q ys (if x < 0 then D else { D with due := x.toNat, keep := y }) L := by
  obtain ⟨kq, hr⟩ := h.rd
  refine (refBreak w q D kq _ _ hr x y hx hy).mono ?_
  rintro e w' ⟨rfl, hr', ht⟩
  refine ⟨rfl, ⟨⟨_, hr'⟩, fun i b hi => ?_, fun k S hL => ?_⟩, ht.mono fun x _ e => .inl e⟩
  · obtain ⟨a, c, hc, hb⟩ := h.yb i b hi
    exact ⟨a, c, hc, (ht.block b (h.lt (.inr (List.mem_of_getElem? hi))) a).trans hb⟩
  · obtain ⟨a, b, ⟨rs, c⟩, d⟩ := h.live k S hL
    refine ⟨a, b, ⟨rs, ?_⟩, fun i b hi hil => (ht.block b (h.lt (.inr (List.mem_of_getElem? hi))) (h.yb i b hi).1).trans (d i b hi hil)⟩
    split
    · exact c
    · exact c.due _ _
theorem yCrash (w : World) (q : Nat) (ys : List Nat) (D : Dk) (L : Lv) (h : PY w q ys D L) (m : Nat) (hle : D.Le m) (hm : m ≤ 100000000) (keep : Int) (hk : -9223372036854775808 ≤ keep ∧ keep < 9223372036854775808) :
    Calls Try.prog 86 #[.pointer (some ⟨q, 0, none⟩), .int .i64 keep] w fun e w' => e = .returned (.tuple #[]) ∧ YOut w w' q ys (D.crash keep) none := by
  obtain ⟨kq, hr⟩ := h.rd
  refine (refCrash w q D kq _ _ hr (by have := hle.e0; omega) (by have := hle.e1; omega) keep hk).mono ?_
  rintro e w' ⟨rfl, hr', ht⟩
  refine ⟨rfl, ⟨⟨_, hr'⟩, fun i b hi => ?_, fun k S hL => by cases hL⟩, ht.mono fun x _ e => .inl e⟩
  obtain ⟨a, c, hc, hb⟩ := h.yb i b hi
  exact ⟨a, c, hc, (ht.block b (h.lt (.inr (List.mem_of_getElem? hi))) a).trans hb⟩
theorem yFile (w : World) (q : Nat) (ys : List Nat) (D : Dk) (L : Lv) (h : PY w q ys D L) (x : Int) :
    Calls Try.prog 88 #[.pointer (some ⟨q, 0, none⟩), .int .i64 x] w fun e w' => e = .returned (.tuple #[.string (if x = 0 then B D.b0 else if x = 1 then B D.b1 else ⟨#[]⟩), .int .i64 (if x = 0 ∨ x = 1 then 0 else 7)]) ∧ Below w.heap.size w w' := by
  obtain ⟨kq, hr⟩ := h.rd
  exact refFile w q D kq _ _ hr x
theorem yOpen (w : World) (q : Nat) (ys : List Nat) (D : Dk) (L : Lv) (h : PY w q ys D L) (hcm : D.Calm) (m : Nat) (hle : D.Le m) (hm : m ≤ 100000000) (hn : ys.length ≤ 100000000) :
    Calls Try.prog 83 #[.pointer (some ⟨q, 0, none⟩)] w fun e w' => ∃ b, e = .returned (.pointer (some ⟨b, 0, none⟩)) ∧ w.heap.size ≤ b ∧ PY w' q (ys ++ [b]) D.opened (some (D.found.1, told D.found.2)) ∧ w.turned w' (footY q ys) := by
  obtain ⟨kq, hr⟩ := h.rd
  refine (refOpen w q D kq _ _ hr hcm m hle hm hn).mono ?_
  rintro e w' ⟨b, rfl, hb, hr', hbb, ht⟩
  have hbl : ∀ i x, ys[i]? = some x → x < w.heap.size := fun i x hi => h.lt (.inr (List.mem_of_getElem? hi))
  have hbq : b ≠ q := fun e => by have := hr.lt; omega
  refine ⟨b, rfl, hb, ⟨⟨kq, by simpa [userOf] using hr'⟩, fun i x hi => ?_, fun k S hL => ?_⟩, ht.mono fun x _ e => .inl e⟩
  · by_cases hil : i < ys.length
    · rw [List.getElem?_append_left hil] at hi
      obtain ⟨a, c, hc, hx⟩ := h.yb i x hi
      exact ⟨a, c, hc, (ht.block x (hbl i x hi) a).trans hx⟩
    · have hi' := (List.getElem?_eq_some_iff.1 hi).1
      simp at hi'
      have hie : i = ys.length := by omega
      subst hie
      rw [List.getElem?_append_right (Nat.le_refl _), Nat.sub_self] at hi
      simp at hi
      subst hi
      exact ⟨hbq, D.found.1, D.found_ok.2.2, hbb⟩
  · injection hL with hL
    injection hL with h1 h2
    subst h1 h2
    refine ⟨D.found_ok.2.2, by simp, ⟨_, Liv.opened D⟩, fun i x hi hil => ?_⟩
    simp at hil
    subst hil
    rw [List.getElem?_append_right (Nat.le_refl _), Nat.sub_self] at hi
    simp at hi
    subst hi
    exact hbb
theorem PY.num {w : World} {q : Nat} {ys : List Nat} {D : Dk} {L : Lv} (h : PY w q ys D L) {i b : Nat} (hi : ys[i]? = some b) : (∃ k S, L = some (k, S) ∧ i + 1 = ys.length ∧ userOf ys.length L = i + 1) ∨ ((L = none ∨ ∃ k S, L = some (k, S) ∧ i + 1 ≠ ys.length) ∧ userOf ys.length L ≠ i + 1) := by
  cases L with
  | none => exact .inr ⟨.inl rfl, by simp [userOf]⟩
  | some x =>
    obtain ⟨k, S⟩ := x
    by_cases hil : i + 1 = ys.length
    · exact .inl ⟨k, S, rfl, hil, by simp [userOf, hil]⟩
    · exact .inr ⟨.inr ⟨k, S, rfl, hil⟩, by simp [userOf]; omega⟩
theorem yWrite (w : World) (q : Nat) (ys : List Nat) (D : Dk) (L : Lv) (h : PY w q ys D L) (i b : Nat) (hi : ys[i]? = some b) (a : Option Addr) (cap : Nat) (rs : List Rec) (hr : rs ≠ [] → w.reads 14 (.slice a rs.length cap) (rs.map Rec.cells)) (m : Nat) (hle : D.Le m) (hm : m ≤ 100000000) (hn : rs.length ≤ 10000000) (hl : (jrnL rs).length ≤ 100000000) :
    Calls Try.prog 131 #[.pointer (some ⟨b, 0, none⟩), .slice a rs.length cap] w fun e w' => e = .returned (.int .i64 (lWrite ys.length D L i rs).1) ∧ YOut w w' q ys (lWrite ys.length D L i rs).2.1 (lWrite ys.length D L i rs).2.2 := by
  obtain ⟨kq, hrd⟩ := h.rd
  obtain ⟨hbq, c, hc, hb⟩ := h.yb i b hi
  rcases h.num hi with ⟨k, S, hL, hil, hU⟩ | ⟨hL, hU⟩
  · obtain ⟨hk, hne, ⟨rs0, hliv⟩, hlast⟩ := h.live k S hL
    have hb' := hlast i b hi hil
    rw [hU] at hrd
    have he : lWrite ys.length D L i rs = ((wWrite D k S rs).1, (wWrite D k S rs).2.1.2, if (wWrite D k S rs).2.1.1 = true then some (k, (wWrite D k S rs).2.2) else none) := by
      rw [hL]; simp only [lWrite]; rw [if_pos hil]
    rw [he]
    refine (refWrite w q b D kq (i + 1) ys.length k hrd hb' hbq hk S a cap rs hr (by omega) hl m hle hm).mono ?_
    rintro e w' ⟨rfl, hr', ht⟩
    refine ⟨rfl, h.turn kq ?_ hi hil hk ((ht.block b (h.lt (.inr (List.mem_of_getElem? hi))) hbq).trans hb') (ht.mono fun x _ e => .inl e) fun k' S' hL' => ?_, ht.mono fun x _ e => .inl e⟩
    · cases hx : (wWrite D k S rs).2.1.1 with
      | true => rw [hx] at hr'; simpa [userOf, hil] using hr'
      | false => rw [hx] at hr'; simpa [userOf] using hr'
    · cases hx : (wWrite D k S rs).2.1.1 with
      | false => rw [hx] at hL'; simp at hL'
      | true =>
        rw [hx, if_pos rfl] at hL'
        injection hL' with hL'
        injection hL' with e1 e2
        subst e1 e2
        refine ⟨rfl, ?_⟩
        unfold wWrite at hx ⊢
        split
        · rename_i hmay
          rw [if_pos hmay] at hx
          split
          · exact ⟨rs0, hliv⟩
          · rename_i hnil
            rw [if_neg hnil] at hx
            split
            · rename_i hw
              exact ⟨_, hliv.write hk hmay.1 hmay.2 hw⟩
            · rename_i hw
              rw [if_neg hw] at hx
              exact absurd hx hw
        · exact ⟨rs0, hliv⟩
  · have he : lWrite ys.length D L i rs = (4, D, L) := by
      rcases hL with hL | ⟨k, S, hL, hil⟩
      · rw [hL]; rfl
      · rw [hL]; simp only [lWrite]; rw [if_neg hil]
    rw [he]
    refine (refWriteOver w q b D kq _ _ (i + 1) c hrd hb hU a rs.length cap).mono ?_
    rintro e w' ⟨rfl, hb⟩
    exact ⟨rfl, YOut.below h hb⟩
theorem yRewrite (w : World) (q : Nat) (ys : List Nat) (D : Dk) (L : Lv) (h : PY w q ys D L) (i b : Nat) (hi : ys[i]? = some b) (N : WSt) (a : Option Addr) (cap : Nat) (hr : N.log ≠ [] → w.reads 8 (.slice a N.log.length cap) (N.log.map Ety.cells)) (m : Nat) (hle : D.Le m) (hm : m ≤ 100000000) (hn : N.log.length ≤ 10000000) (hl : ∀ g, (jrnL ({ N with gen := g } : WSt).recs).length ≤ 100000000) :
    Calls Try.prog 134 #[.pointer (some ⟨b, 0, none⟩), .agg (N.cellsA (.slice a N.log.length cap)).toArray] w fun e w' => e = .returned (.int .i64 (lRewrite ys.length D L i N).1) ∧ YOut w w' q ys (lRewrite ys.length D L i N).2.1 (lRewrite ys.length D L i N).2.2 := by
  obtain ⟨kq, hrd⟩ := h.rd
  obtain ⟨hbq, c, hc, hb⟩ := h.yb i b hi
  rcases h.num hi with ⟨k, S, hL, hil, hU⟩ | ⟨hL, hU⟩
  · obtain ⟨hk, hne, ⟨rs0, hliv⟩, hlast⟩ := h.live k S hL
    have hb' := hlast i b hi hil
    rw [hU] at hrd
    have he : lRewrite ys.length D L i N = ((wRewrite D k S N).1, (wRewrite D k S N).2.1.2, if (wRewrite D k S N).2.1.1 = true then some ((wRewrite D k S N).2.2.1, (wRewrite D k S N).2.2.2) else none) := by
      rw [hL]; simp only [lRewrite]; rw [if_pos hil]
    rw [he]
    refine (refRewrite w q b D kq (i + 1) ys.length k hrd hb' hbq hk S rs0 hliv N a cap hr hn (hl _) m hle hm).mono ?_
    rintro e w' ⟨rfl, hr', hbb, ht⟩
    have htF : w.turned w' (footY q ys) := ht.mono fun x _ e => e.elim (fun e => .inl e) fun e => .inr (e ▸ List.mem_of_getElem? hi)
    refine ⟨rfl, h.turn kq ?_ hi hil (wRewrite_k D k S N hk) hbb ht fun k' S' hL' => ?_, htF⟩
    · cases hx : (wRewrite D k S N).2.1.1 with
      | true => rw [hx] at hr'; simpa [userOf, hil] using hr'
      | false => rw [hx] at hr'; simpa [userOf] using hr'
    · cases hx : (wRewrite D k S N).2.1.1 with
      | false => rw [hx] at hL'; simp at hL'
      | true =>
        rw [hx, if_pos rfl] at hL'
        injection hL' with hL'
        injection hL' with e1 e2
        subst e1 e2
        refine ⟨rfl, ?_⟩
        unfold wRewrite at hx ⊢
        split
        · rename_i hmay
          rw [if_pos hmay] at hx
          split
          · rename_i hw
            exact ⟨_, Liv.rewrite (by omega) hmay hw⟩
          · rename_i hw
            rw [if_neg hw] at hx
            exact absurd hx hw
        · exact ⟨rs0, hliv⟩
  · have he : lRewrite ys.length D L i N = (4, D, L) := by
      rcases hL with hL | ⟨k, S, hL, hil⟩
      · rw [hL]; rfl
      · rw [hL]; simp only [lRewrite]; rw [if_neg hil]
    rw [he]
    refine (refRewriteOver w q b D kq _ _ (i + 1) c hrd hb hU N a N.log.length cap).mono ?_
    rintro e w' ⟨rfl, hb⟩
    exact ⟨rfl, YOut.below h hb⟩
theorem yState (w : World) (q : Nat) (ys : List Nat) (D : Dk) (L : Lv) (h : PY w q ys D L) (i b : Nat) (hi : ys[i]? = some b) (m : Nat) (hle : D.Le m) (hm : m ≤ 100000000) :
    Calls Try.prog 136 #[.pointer (some ⟨b, 0, none⟩)] w fun e w' => ∃ lv, e = .returned (.tuple #[.agg ((lState ys.length L i).1.cellsA lv).toArray, .int .i64 (lState ys.length L i).2]) ∧ w'.ownL 135 8 lv ((lState ys.length L i).1.log.map Ety.cells) ∧ Below w.heap.size w w' := by
  obtain ⟨kq, hrd⟩ := h.rd
  obtain ⟨hbq, c, hc, hb⟩ := h.yb i b hi
  rcases h.num hi with ⟨k, S, hL, hil, hU⟩ | ⟨hL, hU⟩
  · obtain ⟨hk, hne, ⟨rs0, hliv⟩, hlast⟩ := h.live k S hL
    have hb' := hlast i b hi hil
    rw [hU] at hrd
    have he : lState ys.length L i = (S, 0) := by rw [hL]; simp only [lState]; rw [if_pos hil]
    rw [he]
    refine (refState w q b D kq (i + 1) ys.length k hrd hb' hk S rs0 hliv (by have := hle.file k; omega)).mono ?_
    rintro e w' ⟨lv, rfl, h1, -, h3⟩
    exact ⟨lv, rfl, h1, h3⟩
  · have he : lState ys.length L i = (WSt.zero, 4) := by
      rcases hL with hL | ⟨k, S, hL, hil⟩
      · rw [hL]; rfl
      · rw [hL]; simp only [lState]; rw [if_neg hil]
    rw [he]
    refine (refStateOver w q b D kq _ _ (i + 1) c hrd hb hU).mono ?_
    rintro e w' ⟨rfl, hb⟩
    exact ⟨_, rfl, World.ownL.nil _ _ _, hb⟩
end Go.Proofs.Ytcbbnmodjnnbeaa
