/- Texts, blocks and commands put behind a slice. -/
import Derived.Test.YtcbbnmodjnnbeaaPack
set_option linter.unusedSimpArgs false
set_option linter.unusedVariables false
namespace Go.Proofs.Ytcbbnmodjnnbeaa
open Go.RowKit

/-- What holds while a slice grows beside a box. -/
structure Hold (w0 w : World) (base k : Nat) (cs : Array Value) (t : TypeId) (v0 v : Value) (l : List UInt8) : Prop where
  own : OwnB w base v l
  hb : base ≤ w.heap.size
  lt : k < w.heap.size
  ne : v.ownBlock ≠ some k
  blk : w.heap[k]? = some (.cells cs t)
  G : Grew w0 w v0 v
theorem Hold.start {w : World} {base : Nat} {cs : Array Value} {t : TypeId} {v : Value} {l : List UInt8} (h : OwnB w base v l) (hb : base ≤ w.heap.size) : Hold w (w.alloc (.cells cs t)) base w.heap.size cs t v v l :=
  ⟨h.alloc _, by simp; omega, by simp, fun he => by have := (h.lt he).2; omega, heap_alloc_new w _, (Grew.refl w v).alloc _⟩
theorem Hold.step {w0 w w' : World} {base k : Nat} {cs : Array Value} {t : TypeId} {v0 v v' : Value} {l l' : List UInt8} (h : Hold w0 w base k cs t v0 v l) (ho : OwnB w' base v' l') (hg : Grew w w' v v') : Hold w0 w' base k cs t v0 v' l' :=
  ⟨ho, Nat.le_trans h.hb hg.g.size, Nat.lt_of_lt_of_le h.lt hg.g.size, fun he => by
    rcases hg.own with h1 | h1
    · exact h.ne (h1 ▸ he)
    · have := h1 k he; have := h.lt; omega, (hg.keep h.lt h.ne).trans h.blk, h.G.trans hg⟩
theorem Hold.alloc {w0 w : World} {base k : Nat} {cs : Array Value} {t : TypeId} {v0 v : Value} {l : List UInt8} (h : Hold w0 w base k cs t v0 v l) (o : Obj) : Hold w0 (w.alloc o) base k cs t v0 v l :=
  h.step (h.own.alloc o) ((Grew.refl w v).alloc o)
theorem Hold.cell {w0 w : World} {base k : Nat} {cs : Array Value} {t : TypeId} {v0 v : Value} {l : List UInt8} (h : Hold w0 w base k cs t v0 v l) : ∀ o, w.cell? ⟨k, o, none⟩ = cs[o]? := fun o => by simp [World.cell?, h.blk]

theorem new_cells' {w : World} {cs cs' : Array Value} {e : TypeId} {b : Nat} (hb : b = w.heap.size) (h : cs' = cs) : (w.alloc (.cells cs e)).heap[b]? = some (.cells cs' e) := by subst h; subst hb; exact heap_alloc_new w _
theorem appendNumberI (v : Value) (l : List UInt8) (n : Int) (w : World) (base : Nat) (hown : OwnB w base v l) (hbase : base ≤ w.heap.size) (h0 : 0 ≤ n) (h1 : n < 16777216) (hl : l.length ≤ 1000000000000) :
    Calls Try.prog 75 #[v, .int .i64 n] w fun e w' => ∃ v', e = .returned v' ∧ OwnB w' base v' (l ++ be 3 n.toNat) ∧ Grew w w' v v' := by
  obtain ⟨m, rfl⟩ := Int.eq_ofNat_of_zero_le h0
  exact appendNumber v l m w base hown hbase (by omega) hl

set_option maxHeartbeats 400000 in
theorem appendText (v : Value) (l : List UInt8) (s : ByteArray) (w : World) (base : Nat) (hown : OwnB w base v l) (hbase : base ≤ w.heap.size) (hs : s.size ≤ 255) (hl : l.length ≤ 1000000000000) :
    Calls Try.prog 123 #[v, .string s] w fun e w' => ∃ v', e = .returned v' ∧ OwnB w' base v' (l ++ (be 1 s.size ++ s.data.toList)) ∧ Grew w w' v v' := by
  have HE : Hid (([UInt8.ofNat s.size].map byteV).toArray = #[.int .u8 (s.size : Int)]) := by
    show _ = _
    simp only [List.map_cons, List.map_nil, byteV_of s.size (by omega)]
  have HB : Hid (be 1 s.size = [UInt8.ofNat s.size]) := by
    show _ = _
    simp [be, Nat.mod_eq_of_lt (show s.size < 256 by omega)]
  have ho : ∀ o, OwnB (w.alloc o) base v l := fun o => hown.alloc o
  clear hown
  go_enter Try.func123, Try.ntmps123
  go_wp2_with (first | (at_builtin; refine wpB_new rfl _ _ rfl base v l rfl (ho _) _ _ 1 rfl rfl (new_cells HE.out) (by simp only [List.length_cons, List.length_nil]; omega) (by simp; omega) ?_; intro v1 w1 ho1 hg1; have hb1 := hg1.g.size) | (at_builtin; refine wpB_str rfl _ _ rfl base v1 _ rfl ho1 s rfl (by simp only [List.length_append, List.length_cons, List.length_nil]; omega) (by simp at hb1; omega) ?_; intro v2 w2 ho2 hg2))
  go_ret
  exact ⟨v2, rfl, by rw [HB.out, ← List.append_assoc]; exact ho2, (((Grew.refl w v).alloc _).trans hg1).trans hg2⟩

set_option maxHeartbeats 400000 in
theorem appendBlock (v : Value) (l : List UInt8) (s : ByteArray) (w : World) (base : Nat) (hown : OwnB w base v l) (hbase : base ≤ w.heap.size) (hs : s.size < 16777216) (hl : l.length ≤ 100000000000) :
    Calls Try.prog 103 #[v, .string s] w fun e w' => ∃ v', e = .returned v' ∧ OwnB w' base v' (l ++ (be 3 s.size ++ s.data.toList)) ∧ Grew w w' v v' := by
  go_enter Try.func103, Try.ntmps103
  go_wp2_with (first | (go_at_call 75; refine (appendNumber v l s.size _ base hown hbase (by omega) (by omega)).mono ?_; rintro e w1 ⟨v1, rfl, ho1, hg1⟩; have hb1 := hg1.g.size) | (at_builtin; refine wpB_str rfl _ _ rfl base v1 _ rfl ho1 s rfl (by simp only [List.length_append, be_length]; omega) (by omega) ?_; intro v2 w2 ho2 hg2))
  go_ret
  exact ⟨v2, rfl, by rw [← List.append_assoc]; exact ho2, hg1.trans hg2⟩

set_option maxHeartbeats 1000000 in
theorem appendCommand (v : Value) (l : List UInt8) (c : Cmd) (w : World) (base : Nat) (hown : OwnB w base v l) (hbase : base ≤ w.heap.size) (h : CmdBd c) (hl : l.length ≤ 1000000000) :
    Calls Try.prog 104 #[v, (.agg #[.int .i64 c.kind, .string c.key, .string c.val, .string c.old, .int .i64 c.rev, .int .i64 c.ses, .int .i64 c.seq])] w fun e w' => ∃ v', e = .returned v' ∧ OwnB w' base v' (l ++ cmdL c) ∧ Grew w w' v v' := by
  obtain ⟨k0, k4, s0, s8, q0, q1, key, val, old, r0, r1⟩ := h
  obtain ⟨kn, hkn⟩ := Int.eq_ofNat_of_zero_le k0
  obtain ⟨sn, hsn⟩ := Int.eq_ofNat_of_zero_le s0
  have HE : Hid (([UInt8.ofNat kn, UInt8.ofNat sn].map byteV).toArray = #[.int .u8 c.kind, .int .u8 c.ses]) := by
    show _ = _
    simp only [List.map_cons, List.map_nil, byteV_of kn (by omega), byteV_of sn (by omega), hkn, hsn]
  have HB : Hid (be 1 c.kind.toNat ++ be 1 c.ses.toNat = [UInt8.ofNat kn, UInt8.ofNat sn]) := by
    show _ = _
    simp [be, hkn, hsn, Nat.mod_eq_of_lt (show kn < 256 by omega), Nat.mod_eq_of_lt (show sn < 256 by omega)]
  clear hkn hsn
  have H : Hold w (w.alloc (.cells #[.int .i64 c.kind, .string c.key, .string c.val, .string c.old, .int .i64 c.rev, .int .i64 c.ses, .int .i64 c.seq] 23)) base w.heap.size #[.int .i64 c.kind, .string c.key, .string c.val, .string c.old, .int .i64 c.rev, .int .i64 c.ses, .int .i64 c.seq] 23 v v l := Hold.start hown hbase
  clear hown
  go_enter Try.func104, Try.ntmps104
  go_wp2_with (first | (at_builtin; refine wpB_new rfl _ _ rfl base _ _ rfl (H.alloc _).own _ _ 2 rfl rfl (new_cells' (by simp) HE.out) (by simp only [List.length_cons, List.length_nil]; omega) (H.alloc _).hb ?_; intro v1 w1 ho1 hg1; have H := (H.alloc _).step ho1 hg1; have hk := H.cell; clear ho1 hg1) | (go_at_call 75; refine (appendNumberI _ _ _ _ base H.own H.hb (by omega) (by omega) (by simp only [List.length_append, List.length_cons, List.length_nil, be_length, len_data]; omega)).mono ?_; rintro e w1 ⟨v1, rfl, ho1, hg1⟩; have H := H.step ho1 hg1; have hk := H.cell; clear ho1 hg1) | (go_at_call 123; refine (appendText _ _ _ _ base H.own H.hb (by omega) (by simp only [List.length_append, List.length_cons, List.length_nil, be_length, len_data]; omega)).mono ?_; rintro e w1 ⟨v1, rfl, ho1, hg1⟩; have H := H.step ho1 hg1; have hk := H.cell; clear ho1 hg1))
  go_ret
  exact ⟨v1, rfl, by have h := H.own; rw [← HB.out] at h; simpa only [cmdL, List.append_assoc] using h, H.G⟩
end Go.Proofs.Ytcbbnmodjnnbeaa
