/- The program's Reader. -/
import Derived.Test.YtcbbnmodjnnbeaaExt
import Derived.Test.YtcbbnmodjnnbeaaRead
set_option linter.unusedSimpArgs false
set_option linter.unusedVariables false
namespace Go.Proofs.Ytcbbnmodjnnbeaa
open Go.RowKit

/-- A Reader at block p: what is left, and whether something was not there. -/
def RdAt (w : World) (p : Nat) (l : List UInt8) (b : Bool) : Prop := w.heap[p]? = some (.cells #[.string (B l), .bool b] 197)
theorem RdAt.c0 {w : World} {p : Nat} {l : List UInt8} {b : Bool} (h : RdAt w p l b) : w.cell? ⟨p, 0, none⟩ = some (.string (B l)) := by have h' : w.heap[p]? = _ := h; simp [World.cell?, h']
theorem RdAt.c1 {w : World} {p : Nat} {l : List UInt8} {b : Bool} (h : RdAt w p l b) : w.cell? ⟨p, 1, none⟩ = some (.bool b) := by have h' : w.heap[p]? = _ := h; simp [World.cell?, h']
theorem RdAt.f {w : World} {p : Nat} {l : List UInt8} {b : Bool} (h : RdAt w p l b) (o : Nat) : w.frozen? ⟨p, o, none⟩ = false := by have h' : w.heap[p]? = _ := h; simp [World.frozen?, h']
theorem RdAt.lt {w : World} {p : Nat} {l : List UInt8} {b : Bool} (h : RdAt w p l b) : p < w.heap.size := by
  by_cases hp : p < w.heap.size
  · exact hp
  · unfold RdAt at h; rw [Array.getElem?_eq_none (by omega)] at h; cases h
theorem RdAt.set0 {w : World} {p : Nat} {l : List UInt8} {b : Bool} (h : RdAt w p l b) (l' : List UInt8) : RdAt (w.setCell ⟨p, 0, none⟩ (.string (B l'))) p l' b := by
  unfold RdAt at *; simp [World.setCell, Array.getElem?_modify, h]
theorem RdAt.set1 {w : World} {p : Nat} {l : List UInt8} {b : Bool} (h : RdAt w p l b) (b' : Bool) : RdAt (w.setCell ⟨p, 1, none⟩ (.bool b')) p l b' := by
  unfold RdAt at *; simp [World.setCell, Array.getElem?_modify, h]
theorem RdAt.keep {w w' : World} {p : Nat} {l : List UInt8} {b : Bool} (h : RdAt w p l b) (hb : w'.heap[p]? = w.heap[p]?) : RdAt w' p l b := by unfold RdAt at *; rw [hb]; exact h
theorem grownBy_set (w : World) (p o : Nat) (v : Value) : w.grownBy (w.setCell ⟨p, o, none⟩ v) (some p) :=
  ⟨rfl, rfl, rfl, by simp, fun k hk hne => Below.heap_setCell _ _ _ _ (fun h => hne (by rw [h]))⟩
theorem grownBy_trans {w w1 w2 : World} {r : Option Nat} (h : w.grownBy w1 r) (h' : w1.grownBy w2 r) : w.grownBy w2 r :=
  ⟨h'.os.trans h.os, h'.tape.trans h.tape, h'.output.trans h.output, Nat.le_trans h.size h'.size, fun k hk hne => (h'.block k (Nat.lt_of_lt_of_le hk h.size) hne).trans (h.block k hk hne)⟩
theorem grownBy_refl (w : World) (r : Option Nat) : w.grownBy w r := ⟨rfl, rfl, rfl, Nat.le_refl _, fun _ _ _ => rfl⟩
@[go_sem] theorem B_extract (l : List UInt8) (a b : Nat) : (B l).extract a b = B ((l.drop a).take (b - a)) := bytes_ext (by rw [extract_list]; simp only [B_list])

/-- What take gives, and what it leaves. -/
def takeL (l : List UInt8) (b : Bool) (n : Nat) : List UInt8 × List UInt8 × Bool := if l.length < n then ([], [], true) else (l.take n, l.drop n, b)

set_option maxHeartbeats 400000 in
theorem readerStop (p : Nat) (l : List UInt8) (b : Bool) (w : World) (h : RdAt w p l b) :
    Calls Try.prog 149 #[.pointer (some ⟨p, 0, none⟩)] w fun e w' => e = .returned (.tuple #[]) ∧ RdAt w' p [] true ∧ w.grownBy w' (some p) := by
  have h0 := h.c0
  have h1 := h.c1
  have hf := h.f
  have HR := (h.set0 []).set1 true
  have HG := grownBy_trans (grownBy_set w p 0 (.string (B []))) (grownBy_set (w.setCell ⟨p, 0, none⟩ (.string (B []))) p 1 (.bool true))
  clear h
  go_enter Try.func149, Try.ntmps149
  go_wp2
  go_end0
  exact ⟨rfl, HR, HG⟩

set_option maxHeartbeats 400000 in
theorem readerTake (p n : Nat) (l : List UInt8) (b : Bool) (w : World) (h : RdAt w p l b) (hn : n ≤ 100000000) (hl : l.length ≤ maxLen) :
    Calls Try.prog 111 #[.pointer (some ⟨p, 0, none⟩), .int .i64 n] w fun e w' => e = .returned (.string (B (takeL l b n).1)) ∧ RdAt w' p (takeL l b n).2.1 (takeL l b n).2.2 ∧ w.grownBy w' (some p) := by
  unfold maxLen at hl
  have h0 := h.c0
  have h1 := h.c1
  have hf := h.f
  by_cases hlt : l.length < n
  · have HT : Hid (takeL l b n = ([], [], true)) := by show _ = _; unfold takeL; rw [if_pos hlt]
    go_enter Try.func111, Try.ntmps111
    go_wp2_with fail
    refine (readerStop p l b w h).mono ?_
    rintro e w1 ⟨rfl, hr, hg⟩
    go_wp2
    go_ret
    rw [HT.out]
    exact ⟨rfl, hr, hg⟩
  · have HT : Hid (takeL l b n = (l.take n, l.drop n, b)) := by show _ = _; unfold takeL; rw [if_neg hlt]
    have HE : Hid (List.take (l.length - n) (List.drop n l) = List.drop n l) := List.take_of_length_le (by simp)
    have HR := h.set0 (l.drop n)
    have HG := grownBy_set w p 0 (.string (B (l.drop n)))
    clear h
    go_enter Try.func111, Try.ntmps111
    go_wp2
    go_ret
    rw [HT.out, HE.out]
    exact ⟨ret_str (by simp), HR, HG⟩

def byteL (l : List UInt8) (b : Bool) : Nat × List UInt8 × Bool := if (takeL l b 1).2.2 then (0, (takeL l b 1).2) else (((takeL l b 1).1.headD 0).toNat, (takeL l b 1).2)
def numL (l : List UInt8) (b : Bool) : Nat × List UInt8 × Bool := if (takeL l b 3).2.2 then (0, (takeL l b 3).2) else (rd (takeL l b 3).1 0 3, (takeL l b 3).2)
def textL (l : List UInt8) (b : Bool) : List UInt8 × List UInt8 × Bool := takeL (byteL l b).2.1 (byteL l b).2.2 (byteL l b).1
def blockL (l : List UInt8) (b : Bool) : List UInt8 × List UInt8 × Bool := takeL (numL l b).2.1 (numL l b).2.2 (numL l b).1
theorem takeL_len (l : List UInt8) (b : Bool) (n : Nat) : (takeL l b n).2.1.length ≤ l.length := by
  unfold takeL; split <;> simp
theorem takeL_out (l : List UInt8) (b : Bool) (n : Nat) (h : (takeL l b n).2.2 = false) : (takeL l b n).1.length = n := by
  unfold takeL at *; split at h
  · cases h
  · rename_i hn; rw [if_neg hn]; simp; omega

set_option maxHeartbeats 400000 in
theorem readerByte (p : Nat) (l : List UInt8) (b : Bool) (w : World) (h : RdAt w p l b) (hl : l.length ≤ maxLen) :
    Calls Try.prog 109 #[.pointer (some ⟨p, 0, none⟩)] w fun e w' => e = .returned (.int .i64 (byteL l b).1) ∧ RdAt w' p (byteL l b).2.1 (byteL l b).2.2 ∧ w.grownBy w' (some p) := by
  have hl' := hl
  unfold maxLen at hl
  cases hb : (takeL l b 1).2.2
  · have HT : Hid (byteL l b = (((takeL l b 1).1.headD 0).toNat, (takeL l b 1).2)) := by show _ = _; unfold byteL; rw [hb]; rfl
    have ho := takeL_out l b 1 hb
    have HB : Hid ((takeL l b 1).2.2 = false) := hb
    obtain ⟨c, hc⟩ : ∃ c, (takeL l b 1).1 = [c] := by
      match hh : (takeL l b 1).1, ho with
      | [c], _ => exact ⟨c, rfl⟩
    clear ho hb
    have HC : Hid ((takeL l b 1).1 = [c]) := hc
    clear hc
    go_enter Try.func109, Try.ntmps109
    go_wp2_with fail
    refine (readerTake p 1 l b w h (by omega) hl').mono ?_
    rintro e w1 ⟨rfl, hr, hg⟩
    rw [HC.out]
    rw [HB.out] at hr
    have h1 := hr.c1
    go_wp2
    go_ret
    rw [HT.out]
    refine ⟨ret_int ?_, ?_, hg⟩
    · rw [HC.out]; show wrap64 (c.toNat : Int) = (c.toNat : Int); have := c.toNat_lt; unfold wrap64; omega
    · show RdAt w1 p (takeL l b 1).2.1 (takeL l b 1).2.2; rw [HB.out]; exact hr
  · have HT : Hid (byteL l b = (0, (takeL l b 1).2)) := by show _ = _; unfold byteL; rw [hb]; rfl
    have HB : Hid ((takeL l b 1).2.2 = true) := hb
    clear hb
    go_enter Try.func109, Try.ntmps109
    go_wp2_with fail
    refine (readerTake p 1 l b w h (by omega) hl').mono ?_
    rintro e w1 ⟨rfl, hr, hg⟩
    rw [HB.out] at hr
    have h1 := hr.c1
    go_wp2
    go_ret
    rw [HT.out]
    refine ⟨ret_int rfl, ?_, hg⟩
    show RdAt w1 p (takeL l b 1).2.1 (takeL l b 1).2.2; rw [HB.out]; exact hr

theorem or_i64 (a b : Nat) (ha : a < 4294967296) (hb : b < 4294967296) : bits .or .i64 (a : Int) (b : Int) = ((a ||| b : Nat) : Int) := by
  have hx : a ||| b < 2 ^ 32 := Nat.or_lt_two_pow (by omega) (by omega)
  have h1 : (BitVec.ofInt 64 (a : Int)).toNat = a := by
    rw [BitVec.ofInt_natCast, BitVec.toNat_ofNat]; exact Nat.mod_eq_of_lt (by omega)
  have h2 : (BitVec.ofInt 64 (b : Int)).toNat = b := by
    rw [BitVec.ofInt_natCast, BitVec.toNat_ofNat]; exact Nat.mod_eq_of_lt (by omega)
  show IntKind.i64.wrap ((BitVec.ofInt 64 (a : Int) ||| BitVec.ofInt 64 (b : Int)).toNat : Int) = _
  rw [BitVec.toNat_or, h1, h2, IntKind.wrap_i64]
  omega
theorem mul_256 (c d : Nat) : (c * 256 + d) * 256 = c * 65536 + d * 256 := by omega
theorem or3_nat (c d f : Nat) (hd : d < 256) (hf : f < 256) : (c * 65536 ||| d * 256) ||| f = c * 65536 + d * 256 + f := by
  have e1 : c * 65536 ||| d * 256 = c * 65536 + d * 256 := by
    have h := Nat.shiftLeft_add_eq_or_of_lt (show d * 256 < 2 ^ 16 by omega) c
    rw [Nat.shiftLeft_eq] at h
    exact h.symm
  have e3 : (c * 256 + d) * 2 ^ 8 = c * 65536 + d * 256 := mul_256 c d
  have e2 : (c * 65536 + d * 256) ||| f = c * 65536 + d * 256 + f := by
    have h := Nat.shiftLeft_add_eq_or_of_lt (show f < 2 ^ 8 by omega) (c * 256 + d)
    rw [Nat.shiftLeft_eq] at h
    rw [e3] at h
    exact h.symm
  rw [e1, e2]
set_option maxRecDepth 100000 in
theorem or3 (c d f : Nat) (hc : c < 256) (hd : d < 256) (hf : f < 256) :
    bits .or .i64 (bits .or .i64 (IntKind.i64.wrap (IntKind.i64.wrap (c : Int) * 65536)) (IntKind.i64.wrap (IntKind.i64.wrap (d : Int) * 256))) (IntKind.i64.wrap (f : Int)) = ((c * 65536 + d * 256 + f : Nat) : Int) := by
  rw [wrap_id c (by omega) (by omega), wrap_id d (by omega) (by omega), wrap_id f (by omega) (by omega), wrap_id _ (by omega) (by omega), wrap_id _ (by omega) (by omega)]
  have hx : c * 65536 ||| d * 256 < 2 ^ 32 := Nat.or_lt_two_pow (by omega) (by omega)
  have h1 := or_i64 (c * 65536) (d * 256) (by omega) (by omega)
  have h2 := or_i64 (c * 65536 ||| d * 256) f (by omega) (by omega)
  simp only [Int.natCast_mul, Int.cast_ofNat_Int] at h1
  rw [h1, h2, or3_nat c d f hd hf]

set_option maxHeartbeats 400000 in
theorem readerNumber (p : Nat) (l : List UInt8) (b : Bool) (w : World) (h : RdAt w p l b) (hl : l.length ≤ maxLen) :
    Calls Try.prog 78 #[.pointer (some ⟨p, 0, none⟩)] w fun e w' => e = .returned (.int .i64 (numL l b).1) ∧ RdAt w' p (numL l b).2.1 (numL l b).2.2 ∧ w.grownBy w' (some p) := by
  have hl' := hl
  unfold maxLen at hl
  cases hb : (takeL l b 3).2.2
  · have HT : Hid (numL l b = (rd (takeL l b 3).1 0 3, (takeL l b 3).2)) := by show _ = _; unfold numL; rw [hb]; rfl
    have ho := takeL_out l b 3 hb
    have HB : Hid ((takeL l b 3).2.2 = false) := hb
    obtain ⟨c, d, f, hc⟩ : ∃ c d f, (takeL l b 3).1 = [c, d, f] := by
      match hh : (takeL l b 3).1, ho with
      | [c, d, f], _ => exact ⟨c, d, f, rfl⟩
    clear ho hb
    have HC : Hid ((takeL l b 3).1 = [c, d, f]) := hc
    clear hc
    have i0 : ∀ w, (Instr.index 9 (.string (B [c, d, f])) (.int .i64 0)).run Try.prog w = .ok (.int .u8 c.toNat) w := fun w => by kernel_rfl
    have i1 : ∀ w, (Instr.index 9 (.string (B [c, d, f])) (.int .i64 1)).run Try.prog w = .ok (.int .u8 d.toNat) w := fun w => by kernel_rfl
    have i2 : ∀ w, (Instr.index 9 (.string (B [c, d, f])) (.int .i64 2)).run Try.prog w = .ok (.int .u8 f.toNat) w := fun w => by kernel_rfl
    have hc1 := c.toNat_lt
    have hd1 := d.toNat_lt
    have hf1 := f.toNat_lt
    go_enter Try.func78, Try.ntmps78
    go_wp2_with fail
    refine (readerTake p 3 l b w h (by omega) hl').mono ?_
    rintro e w1 ⟨rfl, hr, hg⟩
    rw [HC.out]
    rw [HB.out] at hr
    have h1 := hr.c1
    go_wp2
    go_quiet (fail)
    go_wp2
    go_ret
    rw [HT.out]
    refine ⟨ret_int ?_, ?_, ⟨hg.os, hg.tape, hg.output, hg.size, hg.block⟩⟩
    · rw [or3 _ _ _ (by omega) (by omega) (by omega), HC.out]; simp [rd]; omega
    · show RdAt w1 p (takeL l b 3).2.1 (takeL l b 3).2.2; rw [HB.out]; exact hr
  · have HT : Hid (numL l b = (0, (takeL l b 3).2)) := by show _ = _; unfold numL; rw [hb]; rfl
    have HB : Hid ((takeL l b 3).2.2 = true) := hb
    clear hb
    go_enter Try.func78, Try.ntmps78
    go_wp2_with fail
    refine (readerTake p 3 l b w h (by omega) hl').mono ?_
    rintro e w1 ⟨rfl, hr, hg⟩
    rw [HB.out] at hr
    have h1 := hr.c1
    go_wp2
    go_ret
    rw [HT.out]
    refine ⟨ret_int rfl, ?_, hg⟩
    show RdAt w1 p (takeL l b 3).2.1 (takeL l b 3).2.2; rw [HB.out]; exact hr

theorem byteL_lt (l : List UInt8) (b : Bool) : (byteL l b).1 ≤ 255 := by
  unfold byteL; split
  · simp
  · have := ((takeL l b 1).1.headD 0).toNat_lt; simp only []; omega
theorem byteL_len (l : List UInt8) (b : Bool) : (byteL l b).2.1.length ≤ l.length := by
  unfold byteL; split <;> exact takeL_len l b 1
theorem numL_lt (l : List UInt8) (b : Bool) : (numL l b).1 < 16777216 := by
  unfold numL; split
  · simp
  · exact rd_lt _ _ _
theorem numL_len (l : List UInt8) (b : Bool) : (numL l b).2.1.length ≤ l.length := by
  unfold numL; split <;> exact takeL_len l b 3
set_option maxHeartbeats 400000 in
theorem readerText (p : Nat) (l : List UInt8) (b : Bool) (w : World) (h : RdAt w p l b) (hl : l.length ≤ maxLen) :
    Calls Try.prog 148 #[.pointer (some ⟨p, 0, none⟩)] w fun e w' => e = .returned (.string (B (textL l b).1)) ∧ RdAt w' p (textL l b).2.1 (textL l b).2.2 ∧ w.grownBy w' (some p) := by
  have h1 := byteL_lt l b
  have h2 := byteL_len l b
  have HT : Hid (textL l b = takeL (byteL l b).2.1 (byteL l b).2.2 (byteL l b).1) := rfl
  go_enter Try.func148, Try.ntmps148
  go_wp2_with fail
  refine (readerByte p l b w h hl).mono ?_
  rintro e w1 ⟨rfl, hr, hg⟩
  go_wp2_with fail
  refine (readerTake p (byteL l b).1 _ _ _ hr (by omega) (by omega)).mono ?_
  rintro e w2 ⟨rfl, hr2, hg2⟩
  go_wp2_with fail
  go_ret
  rw [HT.out]
  exact ⟨rfl, hr2, grownBy_trans hg hg2⟩
set_option maxHeartbeats 400000 in
theorem readerBlock (p : Nat) (l : List UInt8) (b : Bool) (w : World) (h : RdAt w p l b) (hl : l.length ≤ maxLen) :
    Calls Try.prog 60 #[.pointer (some ⟨p, 0, none⟩)] w fun e w' => e = .returned (.string (B (blockL l b).1)) ∧ RdAt w' p (blockL l b).2.1 (blockL l b).2.2 ∧ w.grownBy w' (some p) := by
  have h1 := numL_lt l b
  have h2 := numL_len l b
  have HT : Hid (blockL l b = takeL (numL l b).2.1 (numL l b).2.2 (numL l b).1) := rfl
  go_enter Try.func60, Try.ntmps60
  go_wp2_with fail
  refine (readerNumber p l b w h hl).mono ?_
  rintro e w1 ⟨rfl, hr, hg⟩
  go_wp2_with fail
  refine (readerTake p (numL l b).1 _ _ _ hr (by omega) (by omega)).mono ?_
  rintro e w2 ⟨rfl, hr2, hg2⟩
  go_wp2_with fail
  go_ret
  rw [HT.out]
  exact ⟨rfl, hr2, grownBy_trans hg hg2⟩
set_option maxHeartbeats 400000 in
theorem readerDone (p : Nat) (l : List UInt8) (b : Bool) (w : World) (h : RdAt w p l b) :
    Calls Try.prog 56 #[.pointer (some ⟨p, 0, none⟩)] w fun e w' => e = .returned (.bool (!b && l.isEmpty)) ∧ w' = w := by
  have h0 := h.c0
  have h1 := h.c1
  have hB : (B l).toList = l := by rw [ByteArray.toList_eq]; rfl
  clear h
  cases b
  all_goals
    go_enter Try.func56, Try.ntmps56
    go_wp2
    go_ret
    exact ⟨ret_bool (by simp [hB]), rfl⟩
set_option maxHeartbeats 400000 in
theorem readerLeft (p : Nat) (l : List UInt8) (b : Bool) (w : World) (h : RdAt w p l b) :
    Calls Try.prog 61 #[.pointer (some ⟨p, 0, none⟩)] w fun e w' => e = .returned (.int .i64 l.length) ∧ w' = w := by
  have h0 := h.c0
  clear h
  go_enter Try.func61, Try.ntmps61
  go_wp2
  go_ret
  exact ⟨rfl, rfl⟩
set_option maxHeartbeats 400000 in
theorem newReader (s : ByteArray) (w : World) :
    Calls Try.prog 53 #[.string s] w fun e w' => e = .returned (.pointer (some ⟨w.heap.size, 0, none⟩)) ∧ w' = w.alloc (.cells #[.string s, .bool false] 197) := by
  go_enter Try.func53, Try.ntmps53
  go_wp2
  go_ret
  exact ⟨rfl, rfl⟩
end Go.Proofs.Ytcbbnmodjnnbeaa
