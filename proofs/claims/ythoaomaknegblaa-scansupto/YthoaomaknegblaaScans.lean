/- The walk of the statement on every Scan. -/
import Derived.Test.YthoaomaknegblaaRefScan
import Derived.Test.YthoaomaknegblaaSameRec
import Derived.Test.YthoaomaknegblaaOwnRec
import Derived.Test.YthoaomaknegblaaLooks
set_option linter.unusedSimpArgs false
set_option linter.unusedVariables false
namespace Go.Proofs.Ythoaomaknegblaa
open Go.RowKit

theorem OwnR.L {w : World} {base : Nat} {v : Value} {rs : List Rec} (h : OwnR w base v rs) : w.ownL 25 14 v (rs.map Rec.cells) := by
  refine ⟨?_, fun c hc => by obtain ⟨r, _, rfl⟩ := List.mem_map.1 hc; rfl⟩
  rw [List.length_map, ← List.flatMap_def]
  exact ownsRow_base h fun k _ => Nat.zero_le _

theorem ownRecords_as (rs : List Rec) (w : World) (bp : Nat) (a b c vb : Value) (es : List Ent) (al : Option Addr) (cap : Nat)
    (hbk : w.heap[bp]? = some (.cells #[a, b, c, vb] 43)) (ho : Outs w 97 14 mkRec bp vb es) (hl : w.ownL 25 14 (.slice al rs.length cap) (rs.map Rec.cells))
    (hsep : ∀ k, (Value.slice al rs.length cap).ownBlock = some k → k ≠ bp ∧ ¬ footE vb es k) (hn : rs.length ≤ 100000000000) (he : es.length ≤ 1000000000) :
    Calls Try.prog 19 #[.pointer (some ⟨bp, 0, none⟩), .slice al rs.length cap] w fun e w' => e = .returned (.tuple #[]) ∧ ∃ vb' new, w'.heap[bp]? = some (.cells #[a, b, c, vb'] 43) ∧ Outs w' 97 14 mkRec bp vb' (es ++ new) ∧ new.length = 4 ∧ (∀ y ∈ new, y.n ≤ rs.length + 3 ∧ y.k = es.length) ∧
      (∀ k, footE vb' (es ++ new) k → footE vb es k ∨ (Value.slice al rs.length cap).ownBlock = some k ∨ w.heap.size ≤ k) ∧ w.turned w' (fun k => k = bp ∨ vb.ownBlock = some k ∨ (Value.slice al rs.length cap).ownBlock = some k) := by
  have h := ownRecords w bp a b c vb es al cap (rs.map Rec.cells)
  rw [List.length_map] at h
  exact h hbk ho hl hsep hn he
set_option maxRecDepth 100000 in
set_option maxHeartbeats 2000000 in
theorem lawScans (s : ByteArray) (w : World) (hs : s.size ≤ 100000000) :
    Calls Try.prog 4 #[.string s] w fun e w' => e = .returned (.bool true) ∧ Below w.heap.size w w' := by
  have hs' : Hid (s.size ≤ 100000000) := hs
  have hsl : Hid (s.data.toList.length = s.size) := len_data s
  clear hs
  go_enter Try.func4, Try.ntmps4
  go_wp2_with fail
  refine (refScan s _ hs'.out).mono ?_
  rintro e w1 ⟨v0, rs, l, H1, H2, rfl, ho0, hb0⟩
  obtain ⟨a0, p0, hv0⟩ := ho0.L.len
  rw [List.length_map] at hv0
  subst hv0
  go_wp2_with fail
  refine (codecScan s _ (by have := hs'.out; omega)).mono ?_
  rintro e w2 ⟨v1, rs1, l1, H3, H4, rfl, ho1, hb1⟩
  obtain ⟨e1, e2⟩ := ScanTo.same _ _ _ _ _ H1.out H2.out H3.out H4.out
  subst e1 e2
  clear H3 H4
  obtain ⟨a1, p1, hv1⟩ := ho1.L.len
  rw [List.length_map] at hv1
  subst hv1
  go_wp2_with fail
  refine (codecScan s _ (by have := hs'.out; omega)).mono ?_
  rintro e w3 ⟨v2, rs1, l1, H3, H4, rfl, ho2, hb2⟩
  obtain ⟨e1, e2⟩ := ScanTo.same _ _ _ _ _ H1.out H2.out H3.out H4.out
  subst e1 e2
  clear H3 H4
  obtain ⟨a2, p2, hv2⟩ := ho2.L.len
  rw [List.length_map] at hv2
  subst hv2
  have hrl : rs.length ≤ 100000000 := by have h1 := ScanTo.len _ _ _ H1.out; have h2 := hsl.out; have h3 := hs'.out; omega
  have q01 : w.heap.size ≤ w1.heap.size := hb0.size
  have q12 : w1.heap.size ≤ w2.heap.size := hb1.size
  have q23 : w2.heap.size ≤ w3.heap.size := hb2.size
  have L0 : w3.ownL 25 14 (.slice a0 rs.length p0) (rs.map Rec.cells) := (ho0.L.keep fun k hk => hb1.block k (ho0.lt hk).2).keep fun k hk => hb2.block k (by have := (ho0.lt hk).2; omega)
  have L1 : w3.ownL 25 14 (.slice a1 rs.length p1) (rs.map Rec.cells) := ho1.L.keep fun k hk => hb2.block k (ho1.lt hk).2
  have L2 : w3.ownL 25 14 (.slice a2 rs.length p2) (rs.map Rec.cells) := ho2.L
  have B1 : ∀ k, (Value.slice a1 rs.length p1).ownBlock = some k → w1.heap.size ≤ k ∧ k < w2.heap.size := fun k hk => ho1.lt hk
  have B2 : ∀ k, (Value.slice a2 rs.length p2).ownBlock = some k → w2.heap.size ≤ k ∧ k < w3.heap.size := fun k hk => ho2.lt hk
  have HB : Below w.heap.size w w3 := (hb0.trans (hb1.mono q01)).trans (hb2.mono (by omega))
  clear ho0 ho1 ho2 hb0 hb1 hb2 H1 H2
  go_wp2_with fail
  refine (sameRecords_same _ _ _ _ rs _ (by omega) L1.reads L0.reads).mono ?_
  rintro e w4 ⟨rfl, n4, hw4⟩
  have M0 : w4.ownL 25 14 (.slice a0 rs.length p0) (rs.map Rec.cells) := by rw [hw4]; exact L0.drewN n4
  have M2 : w4.ownL 25 14 (.slice a2 rs.length p2) (rs.map Rec.cells) := by rw [hw4]; exact L2.drewN n4
  have HW4 : Hid (w4 = w3.drewN n4) := hw4
  clear hw4
  go_wp2_with fail
  refine (sameRecords_same _ _ _ _ rs _ (by omega) M2.reads M0.reads).mono ?_
  rintro e w5 ⟨rfl, n5, hw5⟩
  have N1 : w5.ownL 25 14 (.slice a1 rs.length p1) (rs.map Rec.cells) := by rw [hw5, HW4.out]; exact (L1.drewN n4).drewN n5
  have N2 : w5.ownL 25 14 (.slice a2 rs.length p2) (rs.map Rec.cells) := by rw [hw5, HW4.out]; exact (L2.drewN n4).drewN n5
  have HB5 : Below w.heap.size w w5 := by rw [hw5, HW4.out]; exact below_drewN (below_drewN HB n4) n5
  have Q35 : Hid (w5.heap.size = w3.heap.size) := by show _ = _; rw [hw5, HW4.out]; rfl
  clear hw5 HW4 M0 M2 L0 L1 L2 HB
  go_wp2_with fail
  refine (ownRecords_as rs (w5.alloc (.cells #[.slice none 0 0, .slice none 0 0, .slice none 0 0, .slice none 0 0] 43)) w5.heap.size _ _ _ (.slice none 0 0) [] a1 p1 (heap_alloc_new w5 _) (Outs.nil _ _ _ _ _) (N1.alloc _) (fun k hk => ⟨by have := B1 k hk; have := Q35.out; omega, foot_nil k⟩) (by omega) (by simp)).mono ?_
  rintro e w6 ⟨rfl, vb6, new6, hbk6, hO6, hn6, hm6, hf6, ht6⟩
  have q35 := Q35.out
  have q56 := ht6.size
  simp only [World.size_alloc] at q56 hf6
  have N3 : w6.ownL 25 14 (.slice a2 rs.length p2) (rs.map Rec.cells) := (N2.alloc _).keep fun k hk => ht6.block k (by have := B2 k hk; simp; omega) (by
    have h2 := B2 k hk
    rintro (h | h | h)
    · omega
    · cases h
    · have := B1 k h; omega)
  have HB6 : Below w.heap.size w w6 := ((World.turned.of_below HB5 (fun _ => False)).alloc _ |>.trans (ht6.mono fun k hk h => h) (fun k hk h => by
    rcases h with h | h | h
    · have := HB5.size; omega
    · cases h
    · have := B1 k h; omega)).below (fun _ _ h => h)
  clear q35
  go_wp2_with fail
  refine (ownRecords_as rs w6 w5.heap.size _ _ _ vb6 _ a2 p2 hbk6 hO6 N3 (fun k hk => ?_) (by omega) (by simp [hn6])).mono ?_
  · have h2 := B2 k hk
    have h3 := Q35.out
    refine ⟨by omega, fun hf => ?_⟩
    rcases hf6 k hf with h | h | h
    · exact foot_nil k h
    · have := B1 k h; omega
    · omega
  rintro e w7 ⟨rfl, vb7, new7, hbk7, hO7, hn7, hm7, hf7, ht7⟩
  have HB7 : Below w.heap.size w w7 := (World.turned.of_below HB6 (fun _ => False) |>.trans ht7 (fun k hk h => by
    have h3 := Q35.out
    have h5 := HB5.size
    rcases h with h | h | h
    · omega
    · rcases hf6 k (.inl h) with h | h | h
      · exact foot_nil k h
      · have := B1 k h; omega
      · omega
    · have := B2 k h; omega)).below (fun _ _ h => h)
  have hl7 : ([] ++ new6 ++ new7).length ≤ 1000000000 := by simp [hn6, hn7]
  have hb7 : ∀ y ∈ [] ++ new6 ++ new7, y.n ≤ 1000000000000 ∧ y.k ≤ 1000000000000 := by
    intro y hy
    rcases List.mem_append.1 hy with hy | hy
    · have := hm6 y (by simpa using hy)
      have h2 : ([] : List Ent).length = 0 := rfl
      omega
    · have := hm7 y hy
      have h2 : ([] ++ new6).length = 4 := by simp [hn6]
      omega
  clear hm6 hm7 hf6 hf7 ht6 ht7 N3 N2 N1 hO6 hbk6 B1 B2 HB5 HB6
  go_wp2_with fail
  refine (lawLooks w7 w5.heap.size _ _ _ _ [] [] [] _ hbk7 (Outs.nil _ _ _ _ _) (by simp) (by intro y hy; cases hy) (Outs.nil _ _ _ _ _) (by simp) (by intro y hy; cases hy) (Outs.nil _ _ _ _ _) (by simp) (by intro y hy; cases hy) hO7 hl7 hb7).mono ?_
  rintro e w8 ⟨rfl, hb8⟩
  go_wp2_with fail
  go_ret
  exact ⟨rfl, HB7.trans (hb8.mono HB7.size)⟩
end Go.Proofs.Ythoaomaknegblaa
