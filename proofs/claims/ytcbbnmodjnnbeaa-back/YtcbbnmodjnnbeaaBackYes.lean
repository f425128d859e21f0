/- The walk of the statement on what is encoded and decoded back: a record that may be. -/
import Derived.Test.YtcbbnmodjnnbeaaBackNo
import Derived.Laws.IdiomStrings
import Derived.Deep.RegionHeld
import Derived.BigQuiet
set_option linter.unusedSimpArgs false
set_option linter.unusedVariables false
namespace Go.Proofs.Ytcbbnmodjnnbeaa
open Go.RowKit
attribute [local go_sem] World.ext_ext

theorem bytesRow_at' (l : List UInt8) (cap k : Nat) (c : UInt8) (hk : l[k]? = some c) : (bytesRow (B l) cap)[k]? = some (.int .u8 c.toNat) := by
  have hl : k < l.length := (List.getElem?_eq_some_iff.1 hk).1
  unfold bytesRow
  rw [Array.getElem?_append_left (by simpa [B_size] using hl), Array.getElem?_map]
  have : (B l).data[k]? = some c := by rw [← Array.getElem?_toList]; exact hk
  rw [this]; rfl
theorem bytes_cell (W : World) (l : List UInt8) (cap k n : Nat) (c : UInt8) (mk : Nat × Nat) (h : n = W.heap.size) (hk : l[k]? = some c) : (W.alloc (.cells (bytesRow (B l) cap) 5 mk)).cell? ⟨n, k, none⟩ = some (.int .u8 c.toNat) := by
  subst h
  rw [World.cell?_alloc_mark]
  exact bytesRow_at' l cap k c hk
theorem bytesRow_size (l : List UInt8) (cap : Nat) : l.length ≤ (bytesRow (B l) cap).size := by
  unfold bytesRow; simp; have : (B l).size = l.length := rfl; omega
theorem bytes_frozen (W : World) (l : List UInt8) (cap k n : Nat) (h : n = W.heap.size) (hk : k < l.length) : (W.alloc (.cells (bytesRow (B l) cap) 5 ((bytesRow (B l) cap).size, (bytesRow (B l) cap).size + 1))).frozen? ⟨n, k, none⟩ = false := by
  subst h
  have hs := bytesRow_size l cap
  have : (W.alloc (.cells (bytesRow (B l) cap) 5 ((bytesRow (B l) cap).size, (bytesRow (B l) cap).size + 1))).heap[W.heap.size]? = some (.cells (bytesRow (B l) cap) 5 ((bytesRow (B l) cap).size, (bytesRow (B l) cap).size + 1)) := by
    show (W.heap.push _)[W.heap.size]? = _
    simp
  unfold World.frozen?
  rw [this]
  simp
  omega
/-- string(b) of bytes of which one has been turned. -/
theorem wp_join {P : Program} {c : Code} {Q : Exit → Act → World → Prop} {a : Act} {W : World} (fa : Act) (fw : World) (h1 : Code.wp P c (fun e a' w' => match e with | .normal => a' = fa ∧ w' = fw | _ => False) a W) (h2 : Q .normal fa fw) : Code.wp P c Q a W :=
  Code.wp_mono (by
    intro e a' w' h
    cases e <;> try exact h.elim
    obtain ⟨rfl, rfl⟩ := h
    exact h2) h1
theorem turned_conv (W W' : World) (l : List UInt8) (cap k n : Nat) (c : UInt8) (mk : Nat × Nat) (v : Value) (h : n = W.heap.size) (hk : k < l.length) (hv : v = .int .u8 c.toNat)
    (hw : ∀ p : Addr, p.block = n → W'.cell? p = ((W.alloc (.cells (bytesRow (B l) cap) 5 mk)).setCell ⟨n, k, none⟩ v).cell? p) (cap' : Nat) :
    (convert 47 9 (.slice (some ⟨n, 0, none⟩) l.length cap')).run Try.prog W' = .ok (.string (B (l.take k ++ c :: l.drop (k + 1)))) W' := by
  subst h
  have hset : l.take k ++ c :: l.drop (k + 1) = l.set k c := by rw [List.set_eq_take_append_cons_drop, if_pos hk]
  have hB : B (l.set k c) = strOfNums ((l.set k c).map fun c => (c.toNat : Int)) := by
    unfold strOfNums B
    simp [Function.comp_def]
  rw [hset, hB]
  refine run_convert_bytes_arg W' 47 5 Try.underlying47 Try.underlying5 W.heap.size 0 l.length cap' _ (by simp) (fun i hi => ?_) 9 Try.underlying9
  rw [hw _ rfl, Nat.zero_add]
  have hi' : i < (l.set k c).length := by simpa using hi
  have hg : ((l.set k c).map fun c => (c.toNat : Int)).getD i 0 = ((l.set k c)[i].toNat : Int) := by simp only [List.getD, List.getElem?_map, List.getElem?_eq_getElem hi', Option.map_some, Option.getD_some]
  rw [hg]
  have hb : (W.alloc (.cells (bytesRow (B l) cap) 5 mk)).heap[W.heap.size]? = some (.cells (bytesRow (B l) cap) 5 mk) := heap_alloc_new W _
  have hb2 : ((W.alloc (.cells (bytesRow (B l) cap) 5 mk)).setCell ⟨W.heap.size, k, none⟩ v).heap[W.heap.size]? = some (.cells ((bytesRow (B l) cap).setIfInBounds k v) 5 mk) := by
    rw [setCell_heap, if_pos rfl, hb]; rfl
  simp only [World.cell?, hb2]
  rw [show (if (none : Option Nat).isSome then none else ((bytesRow (B l) cap).setIfInBounds k v)[i]?) = ((bytesRow (B l) cap).setIfInBounds k v)[i]? from rfl]
  rw [Array.getElem?_setIfInBounds]
  by_cases hik : k = i
  · subst hik
    rw [if_pos rfl, if_pos (by have := bytesRow_size l cap; omega), hv]
    simp
  · rw [if_neg hik, bytesRow_at' l cap i l[i] (List.getElem?_eq_getElem hi)]
    simp [List.getElem_set, hik]
theorem drew_cell (w : World) (p : Addr) : w.drew.cell? p = w.cell? p := rfl
theorem turned_conv2 (W : World) (l : List UInt8) (cap k n : Nat) (c : UInt8) (mk : Nat × Nat) (v : Value) (h : n = W.heap.size) (hk : k < l.length) (hv : v = .int .u8 c.toNat) (cap' : Nat) :
    (convert 47 9 (.slice (some ⟨n, 0, none⟩) l.length cap')).run Try.prog ((W.alloc (.cells (bytesRow (B l) cap) 5 mk)).setCell ⟨n, k, none⟩ v).drew.drew = .ok (.string (B (l.take k ++ c :: l.drop (k + 1)))) ((W.alloc (.cells (bytesRow (B l) cap) 5 mk)).setCell ⟨n, k, none⟩ v).drew.drew :=
  turned_conv W _ l cap k n c mk v h hk hv (fun p hp => by rw [drew_cell, drew_cell]) cap'
theorem neq_rec' (a b : Rec) (w : World) : (binOp .neq 25 (.agg #[.int .i64 a.kind, .int .i64 a.gen, .int .i64 a.index, .int .i64 a.term, .int .i64 a.vote, .int .i64 a.many, .int .i64 a.cmd.kind, .string a.cmd.key, .string a.cmd.val, .string a.cmd.old, .int .i64 a.cmd.rev, .int .i64 a.cmd.ses, .int .i64 a.cmd.seq, .string a.data]) (.agg #[.int .i64 b.kind, .int .i64 b.gen, .int .i64 b.index, .int .i64 b.term, .int .i64 b.vote, .int .i64 b.many, .int .i64 b.cmd.kind, .string b.cmd.key, .string b.cmd.val, .string b.cmd.old, .int .i64 b.cmd.rev, .int .i64 b.cmd.ses, .int .i64 b.cmd.seq, .string b.data])).run Try.prog w = .ok (.bool (!Rec.same a b)) w := by
  have h := eqIn_rec 9997 a b w
  unfold Rec.v at h
  rw [run_neq_struct, h]; rfl
theorem conv3 (w : World) (a b c : Int) (n : Nat) (h : n = w.heap.size) : (convert 47 9 (.slice (some ⟨n, 0, none⟩) 3 3)).run Try.prog (w.alloc (.cells #[.int .u8 a, .int .u8 b, .int .u8 c] 5)) = .ok (.string (B [UInt8.ofNat a.toNat, UInt8.ofNat b.toNat, UInt8.ofNat c.toNat])) (w.alloc (.cells #[.int .u8 a, .int .u8 b, .int .u8 c] 5)) := by
  subst h; exact conv_new w [a, b, c] 3 rfl _ rfl
theorem turned_ne (c : UInt8) (d : Nat) (h : d < 255) : c ≠ UInt8.ofNat ((c.toNat + (1 + d)) % 256) := by
  intro e
  have := congrArg UInt8.toNat e
  have hc := c.toNat_lt
  rw [UInt8.toNat_ofNat_of_lt' (by simp [UInt8.size]; omega)] at this
  omega
theorem turned_val (c : UInt8) (d : Nat) (h : d < 255) : Value.int .u8 (IntKind.u8.wrap ((c.toNat : Int) + IntKind.u8.wrap (IntKind.i64.wrap (1 + (d : Int))))) = .int .u8 ((UInt8.ofNat ((c.toNat + (1 + d)) % 256)).toNat : Int) := by
  have hc := c.toNat_lt
  rw [UInt8.toNat_ofNat_of_lt' (by simp [UInt8.size]; omega), wrap_id _ (by omega) (by omega)]
  have h8 : ∀ n : Int, IntKind.u8.wrap n = n % 256 := fun n => rfl
  rw [h8, h8]
  congr 1
  omega
theorem back_scan (r : Rec) (L : List UInt8) (h : L = encL r) (hm : r.may = true) :
    ScanTo (UInt8.ofNat (L.length / 65536) :: UInt8.ofNat (L.length / 256 % 256) :: UInt8.ofNat (L.length % 256) :: (L ++ UInt8.ofNat (L.length / 65536) :: UInt8.ofNat (L.length / 256 % 256) :: UInt8.ofNat (L.length % 256) :: (L ++ UInt8.ofNat (L.length / 65536) :: UInt8.ofNat (L.length / 256 % 256) :: List.take L.length (UInt8.ofNat (L.length % 256) :: L)))) [r, r] (UInt8.ofNat (L.length / 65536) :: UInt8.ofNat (L.length / 256 % 256) :: List.take L.length (UInt8.ofNat (L.length % 256) :: L)) ∧
    scanStep (UInt8.ofNat (L.length / 65536) :: UInt8.ofNat (L.length / 256 % 256) :: List.take L.length (UInt8.ofNat (L.length % 256) :: L)) = none := by
  have h1 : oneL r = UInt8.ofNat (L.length / 65536) :: UInt8.ofNat (L.length / 256 % 256) :: UInt8.ofNat (L.length % 256) :: L := by
    unfold oneL; rw [be3 _ (encL_lt r hm), ← h]; rfl
  have h0 : UInt8.ofNat (L.length % 256) :: L ≠ [] := by simp
  have h2 : List.take L.length (UInt8.ofNat (L.length % 256) :: L) ++ [(UInt8.ofNat (L.length % 256) :: L).getLast h0] = UInt8.ofNat (L.length % 256) :: L := by
    have h3 := List.dropLast_concat_getLast h0
    rw [List.dropLast_eq_take] at h3
    simpa using h3
  have h4 := scan_back r hm (UInt8.ofNat (L.length / 65536) :: UInt8.ofNat (L.length / 256 % 256) :: List.take L.length (UInt8.ofNat (L.length % 256) :: L)) _ (by rw [h1, List.cons_append, List.cons_append, h2])
  rw [h1] at h4
  exact h4
theorem rec_range {w : World} {b : Nat} {r : Rec} (h : w.rangeAt b 14 #[.int .i64 r.kind, .int .i64 r.gen, .int .i64 r.index, .int .i64 r.term, .int .i64 r.vote, .int .i64 r.many, .int .i64 r.cmd.kind, .string r.cmd.key, .string r.cmd.val, .string r.cmd.old, .int .i64 r.cmd.rev, .int .i64 r.cmd.ses, .int .i64 r.cmd.seq, .string r.data].toList) :
    w.cell? ⟨b, 14, none⟩ = some (.int .i64 r.kind) ∧ w.cell? ⟨b, 15, none⟩ = some (.int .i64 r.gen) ∧ w.cell? ⟨b, 16, none⟩ = some (.int .i64 r.index) ∧ w.cell? ⟨b, 17, none⟩ = some (.int .i64 r.term) ∧ w.cell? ⟨b, 18, none⟩ = some (.int .i64 r.vote) ∧ w.cell? ⟨b, 19, none⟩ = some (.int .i64 r.many) ∧
    w.cell? ⟨b, 20, none⟩ = some (.int .i64 r.cmd.kind) ∧ w.cell? ⟨b, 21, none⟩ = some (.string r.cmd.key) ∧ w.cell? ⟨b, 22, none⟩ = some (.string r.cmd.val) ∧ w.cell? ⟨b, 23, none⟩ = some (.string r.cmd.old) ∧ w.cell? ⟨b, 24, none⟩ = some (.int .i64 r.cmd.rev) ∧ w.cell? ⟨b, 25, none⟩ = some (.int .i64 r.cmd.ses) ∧ w.cell? ⟨b, 26, none⟩ = some (.int .i64 r.cmd.seq) ∧ w.cell? ⟨b, 27, none⟩ = some (.string r.data) :=
  ⟨h 0 _ rfl, h 1 _ rfl, h 2 _ rfl, h 3 _ rfl, h 4 _ rfl, h 5 _ rfl, h 6 _ rfl, h 7 _ rfl, h 8 _ rfl, h 9 _ rfl, h 10 _ rfl, h 11 _ rfl, h 12 _ rfl, h 13 _ rfl⟩
theorem rec_range0 {w : World} {b : Nat} {r : Rec} (h : w.rangeAt b 0 #[.int .i64 r.kind, .int .i64 r.gen, .int .i64 r.index, .int .i64 r.term, .int .i64 r.vote, .int .i64 r.many, .int .i64 r.cmd.kind, .string r.cmd.key, .string r.cmd.val, .string r.cmd.old, .int .i64 r.cmd.rev, .int .i64 r.cmd.ses, .int .i64 r.cmd.seq, .string r.data].toList) :
    w.cell? ⟨b, 0, none⟩ = some (.int .i64 r.kind) ∧ w.cell? ⟨b, 1, none⟩ = some (.int .i64 r.gen) ∧ w.cell? ⟨b, 2, none⟩ = some (.int .i64 r.index) ∧ w.cell? ⟨b, 3, none⟩ = some (.int .i64 r.term) ∧ w.cell? ⟨b, 4, none⟩ = some (.int .i64 r.vote) ∧ w.cell? ⟨b, 5, none⟩ = some (.int .i64 r.many) ∧
    w.cell? ⟨b, 6, none⟩ = some (.int .i64 r.cmd.kind) ∧ w.cell? ⟨b, 7, none⟩ = some (.string r.cmd.key) ∧ w.cell? ⟨b, 8, none⟩ = some (.string r.cmd.val) ∧ w.cell? ⟨b, 9, none⟩ = some (.string r.cmd.old) ∧ w.cell? ⟨b, 10, none⟩ = some (.int .i64 r.cmd.rev) ∧ w.cell? ⟨b, 11, none⟩ = some (.int .i64 r.cmd.ses) ∧ w.cell? ⟨b, 12, none⟩ = some (.int .i64 r.cmd.seq) ∧ w.cell? ⟨b, 13, none⟩ = some (.string r.data) :=
  ⟨by simpa using h 0 _ rfl, by simpa using h 1 _ rfl, by simpa using h 2 _ rfl, by simpa using h 3 _ rfl, by simpa using h 4 _ rfl, by simpa using h 5 _ rfl, by simpa using h 6 _ rfl, by simpa using h 7 _ rfl, by simpa using h 8 _ rfl, by simpa using h 9 _ rfl, by simpa using h 10 _ rfl, by simpa using h 11 _ rfl, by simpa using h 12 _ rfl, by simpa using h 13 _ rfl⟩
theorem back_size (L : List UInt8) : (UInt8.ofNat (L.length / 65536) :: UInt8.ofNat (L.length / 256 % 256) :: UInt8.ofNat (L.length % 256) :: (L ++ UInt8.ofNat (L.length / 65536) :: UInt8.ofNat (L.length / 256 % 256) :: UInt8.ofNat (L.length % 256) :: (L ++ UInt8.ofNat (L.length / 65536) :: UInt8.ofNat (L.length / 256 % 256) :: List.take L.length (UInt8.ofNat (L.length % 256) :: L)))).length = (UInt8.ofNat (L.length / 65536) :: UInt8.ofNat (L.length / 256 % 256) :: List.take L.length (UInt8.ofNat (L.length % 256) :: L)).length + 2 * (L.length + 3) ∧
    (UInt8.ofNat (L.length / 65536) :: UInt8.ofNat (L.length / 256 % 256) :: List.take L.length (UInt8.ofNat (L.length % 256) :: L)).length ≤ L.length + 3 := by
  simp only [List.length_cons, List.length_append, List.length_take]
  omega
theorem own2_cells {w : World} {base : Nat} {v : Value} {r : Rec} (h : OwnR w base v [r, r]) : ∃ g cap, v = .slice (some ⟨g, 0, none⟩) 2 cap ∧ w.rangeAt g 0 #[.int .i64 r.kind, .int .i64 r.gen, .int .i64 r.index, .int .i64 r.term, .int .i64 r.vote, .int .i64 r.many, .int .i64 r.cmd.kind, .string r.cmd.key, .string r.cmd.val, .string r.cmd.old, .int .i64 r.cmd.rev, .int .i64 r.cmd.ses, .int .i64 r.cmd.seq, .string r.data].toList ∧ w.rangeAt g 14 #[.int .i64 r.kind, .int .i64 r.gen, .int .i64 r.index, .int .i64 r.term, .int .i64 r.vote, .int .i64 r.many, .int .i64 r.cmd.kind, .string r.cmd.key, .string r.cmd.val, .string r.cmd.old, .int .i64 r.cmd.rev, .int .i64 r.cmd.ses, .int .i64 r.cmd.seq, .string r.data].toList := by
  rcases h.2 with ⟨_, h2⟩ | ⟨g, cap, cur, rfl, hg, hb, r1, r2, r3, r4⟩
  · simp at h2
  · have hc := World.ownsRow.cells h (g := g) rfl
    refine ⟨g, cap, rfl, fun j v hj => ?_, fun j v hj => ?_⟩
    · have hj' : (Rec.cells r)[j]? = some v := hj
      have := hc j v (by rw [List.flatMap_cons, List.getElem?_append_left (List.getElem?_eq_some_iff.1 hj').1]; exact hj')
      rw [Addr.add_lit] at this; exact this
    · have hj' : (Rec.cells r)[j]? = some v := hj
      have := hc (14 + j) v (by rw [List.flatMap_cons, List.getElem?_append_right (by simp [Rec.cells]), show 14 + j - (Rec.cells r).length = j by simp [Rec.cells], List.flatMap_cons, List.getElem?_append_left (List.getElem?_eq_some_iff.1 hj').1]; exact hj')
      rw [Addr.add_lit, Nat.zero_add] at this; exact this
set_option maxRecDepth 100000 in
set_option maxHeartbeats 2000000 in
theorem back_yes (r : Rec) (s : ByteArray) (at_ by_ : Int) (w : World) (hs : s.size ≤ 281474976710656) (hm : r.may = true) (ha0 : -9223372036854775808 ≤ at_) (ha1 : at_ < 9223372036854775808) (hb0 : -9223372036854775808 ≤ by_) (hb1 : by_ < 9223372036854775808) :
    Calls Try.prog 5 #[(.agg #[.int .i64 r.kind, .int .i64 r.gen, .int .i64 r.index, .int .i64 r.term, .int .i64 r.vote, .int .i64 r.many, .int .i64 r.cmd.kind, .string r.cmd.key, .string r.cmd.val, .string r.cmd.old, .int .i64 r.cmd.rev, .int .i64 r.cmd.ses, .int .i64 r.cmd.seq, .string r.data]), .string s, .int .i64 at_, .int .i64 by_] w fun e w' => e = .returned (.bool true) ∧ Below w.heap.size w w' := by
  have heq := eql_rec'
  have hs' : Hid (s.size ≤ 281474976710656) := hs
  have HM : Hid (r.may = true) := hm
  have hrr : Rec.same r r = true := (Rec.same_iff r r).2 rfl
  have HA : Hid ((-9223372036854775808 ≤ at_ ∧ at_ < 9223372036854775808) ∧ (-9223372036854775808 ≤ by_ ∧ by_ < 9223372036854775808)) := ⟨⟨ha0, ha1⟩, hb0, hb1⟩
  clear hs hm ha0 ha1 hb0 hb1
  obtain ⟨L, HL⟩ : ∃ L, Hid (L = encL r) := ⟨_, rfl⟩
  have HLn : Hid (4 ≤ L.length ∧ L.length < 16777216) := by
    refine ⟨?_, by rw [HL.out]; exact encL_lt r HM.out⟩
    rw [HL.out]; unfold encL; rw [List.length_append, be_length]; omega
  have hBL : (B L).size = L.length := B_size L
  have hE : (B L).toList.isEmpty = false := by
    rw [ByteArray.toList_eq, B_list]
    have := HLn.out.1
    cases L with
    | nil => simp at this
    | cons a b => rfl
  have hLlt : L.length < 16777216 := HLn.out.2
  have hL4 : 4 ≤ L.length := HLn.out.1
  have hsz1 : Hid ((B L).size ≤ 281474976710656) := by show _ ≤ _; rw [hBL]; have := HLn.out.2; omega
  have hD : Hid (decR L = (r, 0)) := by show _ = _; rw [HL.out]; exact decR_enc r HM.out
  obtain ⟨LL, HLL⟩ : ∃ x, Hid (L = L.take (L.length - 1) ++ [x]) := by
    have h0 : L ≠ [] := by intro h; rw [h] at hL4; simp at hL4
    exact ⟨L.getLast h0, (List.dropLast_concat_getLast h0).symm.trans (by rw [List.dropLast_eq_take])⟩
  obtain ⟨k, HK⟩ : ∃ k : Nat, Hid ((k : Int) = pickI at_ L.length) := ⟨(pickI at_ L.length).toNat, by have := (pickI_lt at_ L.length (by omega)).1; show _ = _; omega⟩
  have hkl : k < L.length := by have h1 := (pickI_lt at_ L.length (by omega)).2; have h2 := HK.out; omega
  obtain ⟨d, HD⟩ : ∃ d : Nat, Hid ((d : Int) = pickI by_ 255) := ⟨(pickI by_ 255).toNat, by have := (pickI_lt by_ 255 (by omega)).1; show _ = _; omega⟩
  have hdl : d < 255 := by have h1 := (pickI_lt by_ 255 (by omega)).2; have h2 := HD.out; omega
  have hcv2 := fun w s => run_bytes_of_string (P := Try.prog) w 9 47 5 s Try.underlying9 Try.underlying47 Try.underlying5
  have hkc : L[k]? = some L[k] := List.getElem?_eq_getElem hkl
  have hbc := fun W cap n mk h => bytes_cell W L cap k n L[k] mk h hkc
  have hbf := fun W cap n h => bytes_frozen W L cap k n h hkl
  have heqn := neq_rec'
  have hc3 := conv3
  have HLk : Hid (L = L.take k ++ L[k] :: L.drop (k + 1)) := by show _ = _; rw [List.getElem_cons_drop, List.take_append_drop]
  go_enter Try.func5, Try.ntmps5
  go_wp2_with fail
  refine (lawWorks _).mono ?_
  rintro e w1 ⟨rfl, hb1⟩
  obtain ⟨x1, rfl⟩ := Below.ext hb1
  clear hb1
  go_wp2_with fail
  refine (codecEncode r _ HM.out).mono ?_
  rw [← HL.out]
  rintro e w1 ⟨rfl, hb1⟩
  obtain ⟨x2, rfl⟩ := Below.ext hb1
  clear hb1
  go_wp2_with fail
  refine (progDecode _ _ hsz1.out).mono ?_
  rintro e w1 ⟨q, g, Hq, rfl, hb1⟩
  obtain ⟨x3, rfl⟩ := Below.ext hb1
  clear hb1
  have hq : (q, g) = (r, 0) := by rw [Hq.out]; exact hD.out
  injection hq with hq1 hq2
  subst hq1 hq2
  clear Hq
  go_wp2_with fail
  refine (progDecode (B (L ++ [120])) _ (by rw [B_size, List.length_append]; have := HLn.out.2; simp only [List.length_cons, List.length_nil]; omega)).mono ?_
  rintro e w1 ⟨q2, g2, Hq, rfl, hb1⟩
  obtain ⟨x4, rfl⟩ := Below.ext hb1
  clear hb1
  have hq : (q2, g2) = (Rec.zero, 10) := by rw [Hq.out, B_list, HL.out]; exact decR_longer q 120 HM.out
  injection hq with hq1 hq2
  subst hq1 hq2
  clear Hq
  go_wp2_with fail
  refine (progDecode (B (L.take (L.length - 1))) _ (by rw [B_size, List.length_take]; have := HLn.out.2; omega)).mono ?_
  rintro e w1 ⟨q2, g2, Hq, rfl, hb1⟩
  obtain ⟨x5, rfl⟩ := Below.ext hb1
  clear hb1
  have hq : (q2, g2) = (Rec.zero, 10) := by rw [Hq.out, B_list]; exact decR_shorter q HM.out _ LL (by rw [← HL.out]; exact HLL.out)
  injection hq with hq1 hq2
  subst hq1 hq2
  clear Hq
  go_wp2_with fail
  refine (lawPick at_ L.length _ HA.out.1.1 HA.out.1.2 (by omega) (by omega)).mono ?_
  rw [← HK.out]
  rintro e w1 ⟨rfl, rfl⟩
  go_wp2_with fail
  apply wp_join
  case h1 =>
    go_region_with (go_at_call 24; refine (lawPick by_ 255 _ HA.out.2.1 HA.out.2.2 (by omega) (by omega)).mono ?_; rw [← HD.out]; rintro e w1 ⟨rfl, rfl⟩)
    all_goals exact ⟨rfl, rfl⟩
  case h2 =>
    refine world_any (F := fun W' => Below w.heap.size w W' ∧ W'.heap[w.heap.size]? = some (.cells #[.int .i64 q.kind, .int .i64 q.gen, .int .i64 q.index, .int .i64 q.term, .int .i64 q.vote, .int .i64 q.many, .int .i64 q.cmd.kind, .string q.cmd.key, .string q.cmd.val, .string q.cmd.old, .int .i64 q.cmd.rev, .int .i64 q.cmd.ses, .int .i64 q.cmd.seq, .string q.data] 25) ∧ W'.heap[w.heap.size + 1 + (x1.new.size + (x2.new.size + x3.new.size))]? = some (.cells #[.int .i64 q.kind, .int .i64 q.gen, .int .i64 q.index, .int .i64 q.term, .int .i64 q.vote, .int .i64 q.many, .int .i64 q.cmd.kind, .string q.cmd.key, .string q.cmd.val, .string q.cmd.old, .int .i64 q.cmd.rev, .int .i64 q.cmd.ses, .int .i64 q.cmd.seq, .string q.data] 25) ∧ ∀ cap, (convert 47 9 (.slice (some ⟨w.heap.size + 1 + (x1.new.size + (x2.new.size + x3.new.size)) + 1 + x4.new.size + 1 + x5.new.size + 1, 0, none⟩) L.length cap)).run Try.prog W' = .ok (.string (B (L.take k ++ UInt8.ofNat ((L[k].toNat + (1 + d)) % 256) :: L.drop (k + 1)))) W') ⟨(by repeat (first | exact Below.refl _ _ | assumption | refine Gr.ext ?_ _ | refine Gr.alloc ?_ _ | refine Gr.drew ?_ | (refine Gr.set ?_ (by first | (simp; done) | (simp; omega)) _))), (by repeat (first | with_reducible assumption | (with_reducible refine Hp.new ?_; (first | rfl | (simp [go_sem]; done) | (simp [go_sem]; omega)); done) | with_reducible refine Hp.alloc ?_ _ | with_reducible refine Hp.ext ?_ _ | with_reducible refine Hp.drew ?_ | (with_reducible refine Hp.set ?_ (by simp; omega) _))), (by repeat (first | with_reducible assumption | (with_reducible refine Hp.new ?_; (first | rfl | (simp [go_sem]; done) | (simp [go_sem]; omega)); done) | with_reducible refine Hp.alloc ?_ _ | with_reducible refine Hp.ext ?_ _ | with_reducible refine Hp.drew ?_ | (with_reducible refine Hp.set ?_ (by simp; omega) _))), fun cap => ?_⟩ ?_
    · refine turned_conv2 _ L _ k _ _ _ _ ?_ hkl (turned_val L[k] d hdl) cap
      try simp [go_sem]
    clear hbc hbf hcv2
    as_aux_lemma =>
    rintro W ⟨hbW, hp4, hp12, hcv⟩
    have h4s : w.heap.size < W.heap.size := (Array.getElem?_eq_some_iff.1 hp4).1
    have h12s : w.heap.size + 1 + (x1.new.size + (x2.new.size + x3.new.size)) < W.heap.size := (Array.getElem?_eq_some_iff.1 hp12).1
    obtain ⟨c40, c41, c42, c43, c44, c45, c46, c47, c48, c49, c4a, c4b, c4c, c4d⟩ := rec_at hp4
    obtain ⟨d40, d41, d42, d43, d44, d45, d46, d47, d48, d49, d4a, d4b, d4c, d4d⟩ := rec_at hp12
    have HP4 : Hid (W.heap[w.heap.size]? = some (.cells #[.int .i64 q.kind, .int .i64 q.gen, .int .i64 q.index, .int .i64 q.term, .int .i64 q.vote, .int .i64 q.many, .int .i64 q.cmd.kind, .string q.cmd.key, .string q.cmd.val, .string q.cmd.old, .int .i64 q.cmd.rev, .int .i64 q.cmd.ses, .int .i64 q.cmd.seq, .string q.data] 25)) := hp4
    clear hp4 hp12
    go_wp2_with fail
    refine (progDecode (B (L.take k ++ UInt8.ofNat ((L[k].toNat + (1 + d)) % 256) :: L.drop (k + 1))) _ (by rw [B_size, List.length_append, List.length_cons, List.length_take, List.length_drop]; omega)).mono ?_
    rintro e w1 ⟨q2, g2, Hq, rfl, hb1⟩
    obtain ⟨x6, rfl⟩ := Below.ext hb1
    clear hb1 hcv
    have hq : (q2, g2) = (Rec.zero, 10) := by rw [Hq.out, B_list]; exact decR_turned q _ _ L[k] _ (by rw [← HL.out]; exact HLk.out) (turned_ne _ _ hdl)
    injection hq with hq1 hq2
    subst hq1 hq2
    clear Hq
    go_wp2_with fail
    have hJ := back_scan q L HL.out HM.out
    have hJs := back_size L
    generalize hM : UInt8.ofNat (L.length / 65536) :: UInt8.ofNat (L.length / 256 % 256) :: List.take L.length (UInt8.ofNat (L.length % 256) :: L) = M at hJ hJs ⊢
    generalize hJJ : UInt8.ofNat (L.length / 65536) :: UInt8.ofNat (L.length / 256 % 256) :: UInt8.ofNat (L.length % 256) :: (L ++ UInt8.ofNat (L.length / 65536) :: UInt8.ofNat (L.length / 256 % 256) :: UInt8.ofNat (L.length % 256) :: (L ++ M)) = J at hJ hJs ⊢
    clear hM hJJ
    refine (codecScan (B J) _ (by rw [B_size]; omega)).mono ?_
    rintro e w1 ⟨v, rs, l, H1, H2, rfl, ho, hb1⟩
    have hsm := ScanTo.same _ _ _ _ _ H1.out H2.out hJ.1 hJ.2
    obtain ⟨x7, rfl⟩ := Below.ext hb1
    have hsz : ((B J).size : Int) - l.length = 2 * ((L.length : Int) + 1 + 1 + 1) := by rw [hsm.2, B_size]; omega
    rw [hsm.1] at ho
    rw [hsz]
    clear hb1 H1 H2 hsm hJ hJs hsz
    obtain ⟨g, cap, hv, hg0, hg1⟩ := own2_cells ho
    rw [hv]
    clear hv ho
    go_wp2_with fail
    have hp4 := HP4.out
    refine world_any (F := fun W' => Below w.heap.size w W' ∧ W'.heap[w.heap.size]? = some (.cells #[.int .i64 q.kind, .int .i64 q.gen, .int .i64 q.index, .int .i64 q.term, .int .i64 q.vote, .int .i64 q.many, .int .i64 q.cmd.kind, .string q.cmd.key, .string q.cmd.val, .string q.cmd.old, .int .i64 q.cmd.rev, .int .i64 q.cmd.ses, .int .i64 q.cmd.seq, .string q.data] 25) ∧ W'.rangeAt g 0 #[.int .i64 q.kind, .int .i64 q.gen, .int .i64 q.index, .int .i64 q.term, .int .i64 q.vote, .int .i64 q.many, .int .i64 q.cmd.kind, .string q.cmd.key, .string q.cmd.val, .string q.cmd.old, .int .i64 q.cmd.rev, .int .i64 q.cmd.ses, .int .i64 q.cmd.seq, .string q.data].toList ∧ W'.rangeAt g 14 #[.int .i64 q.kind, .int .i64 q.gen, .int .i64 q.index, .int .i64 q.term, .int .i64 q.vote, .int .i64 q.many, .int .i64 q.cmd.kind, .string q.cmd.key, .string q.cmd.val, .string q.cmd.old, .int .i64 q.cmd.rev, .int .i64 q.cmd.ses, .int .i64 q.cmd.seq, .string q.data].toList) ⟨(by repeat (first | exact Below.refl _ _ | assumption | refine Gr.ext ?_ _ | refine Gr.alloc ?_ _ | refine Gr.drew ?_ | (refine Gr.set ?_ (by first | (simp; done) | (simp; omega)) _))), (by repeat (first | with_reducible assumption | (with_reducible refine Hp.new ?_; (first | rfl | (simp [go_sem]; done) | (simp [go_sem]; omega)); done) | with_reducible refine Hp.alloc ?_ _ | with_reducible refine Hp.ext ?_ _ | with_reducible refine Hp.drew ?_ | (with_reducible refine Hp.set ?_ (by simp; omega) _))), hg0, hg1⟩ ?_
    clear hg0 hg1 hp4 HP4 c40 c41 c42 c43 c44 c45 c46 c47 c48 c49 c4a c4b c4c c4d d40 d41 d42 d43 d44 d45 d46 d47 d48 d49 d4a d4b d4c d4d h4s h12s hbW hc3
    as_aux_lemma =>
    rintro W2 ⟨hbW, hp4, hg0, hg1⟩
    have h4s : w.heap.size < W2.heap.size := (Array.getElem?_eq_some_iff.1 hp4).1
    obtain ⟨c40, c41, c42, c43, c44, c45, c46, c47, c48, c49, c4a, c4b, c4c, c4d⟩ := rec_at hp4
    obtain ⟨d40, d41, d42, d43, d44, d45, d46, d47, d48, d49, d4a, d4b, d4c, d4d⟩ := rec_range hg1
    obtain ⟨e40, e41, e42, e43, e44, e45, e46, e47, e48, e49, e4a, e4b, e4c, e4d⟩ := rec_range0 hg0
    clear hp4 hg0 hg1
    go_quiet (fail)
    go_wp2_with fail
    refine (progDecode _ _ hs'.out).mono ?_
    rintro e w1 ⟨p, g3, Hq, rfl, hb1⟩
    obtain ⟨x9, rfl⟩ := Below.ext hb1
    clear hb1
    by_cases hg : g3 = 0
    · subst hg
      have hq := decR_ok Hq.out
      have HQ : Hid (encL p = s.data.toList) := hq.2
      have hqm : Hid (p.may = true) := hq.1
      clear hq
      go_wp2_with fail
      refine (codecEncode p _ hqm.out).mono ?_
      rw [HQ.out, B_eta]
      rintro e w1 ⟨rfl, hb1⟩
      obtain ⟨x10, rfl⟩ := Below.ext hb1
      clear hb1
      go_wp2_with fail
      go_ret
      exact ⟨rfl, (by repeat (first | exact Below.refl _ _ | assumption | with_reducible refine below_drewN ?_ _ | refine Gr.ext ?_ _ | refine Gr.alloc ?_ _ | refine Gr.drew ?_ | (refine Gr.set ?_ (by first | (simp; done) | (simp; omega)) _)))⟩
    · go_wp2_with fail
      go_ret
      exact ⟨rfl, (by repeat (first | exact Below.refl _ _ | assumption | with_reducible refine below_drewN ?_ _ | refine Gr.ext ?_ _ | refine Gr.alloc ?_ _ | refine Gr.drew ?_ | (refine Gr.set ?_ (by first | (simp; done) | (simp; omega)) _)))⟩
end Go.Proofs.Ytcbbnmodjnnbeaa
