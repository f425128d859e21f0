/- The law's book takes a list: ownResults. -/
import Derived.Test.YtcbbnmodjnnbeaaRaise
import Derived.Test.YtcbbnmodjnnbeaaPack2
import Derived.Deep.DeepMust
set_option linter.unusedSimpArgs false
set_option linter.unusedVariables false
namespace Go.Proofs.Ytcbbnmodjnnbeaa
open Go.RowKit

theorem bndRes_a {n : Nat} (he : n ≤ 1000000000) : ∀ k, k ≤ 3 → (n + (k + 1) + 1) * 32 ≤ 140737488355328 := by omega
theorem bndRes_b {n : Nat} (he : n ≤ 1000000000) : ∀ k, k ≤ 3 → n + (k + 1) + 1 ≤ maxLen := by unfold maxLen; omega
theorem bndRes_m {n : Nat} (hn : n ≤ 100000000000) : ∀ k, k ≤ 3 → (n + k + 1) * 24 ≤ 140737488355328 := by omega
theorem bndRes_d {n : Nat} (hn : n ≤ 100000000000) : ∀ k, k ≤ 3 → n + k + 1 ≤ maxLen := by unfold maxLen; omega
theorem infoResL : (Try.prog.info? 72).map (fun i => (i.zero, i.size, i.bytes)) = some (some (.agg #[.bool false, .int .i64 0, .bool false]), 3, 24) := by kernel_rfl
theorem infoResO : (Try.prog.info? 127).map (fun i => (i.zero, i.size, i.bytes)) = some (some (.agg #[.slice none 0 0, .int .i64 0]), 2, 32) := by kernel_rfl
set_option maxRecDepth 100000 in
set_option maxHeartbeats 2000000 in
theorem ownResults (w : World) (bp : Nat) (a b c vb : Value) (es : List Ent) (al : Option Addr) (cap : Nat) (cs : List (List Value))
    (hbk : w.heap[bp]? = some (.cells #[vb, a, b, c] 43)) (ho : Outs w 127 3 mkRes bp vb es) (hl : w.ownL 72 3 (.slice al cs.length cap) cs)
    (hsep : ∀ k, (Value.slice al cs.length cap).ownBlock = some k → k ≠ bp ∧ ¬ footE vb es k) (hn : cs.length ≤ 100000000000) (he : es.length ≤ 1000000000) :
    Calls Try.prog 66 #[.pointer (some ⟨bp, 0, none⟩), .slice al cs.length cap] w fun e w' => e = .returned (.tuple #[]) ∧ ∃ vb' new, w'.heap[bp]? = some (.cells #[vb', a, b, c] 43) ∧ Outs w' 127 3 mkRes bp vb' (es ++ new) ∧ new.length = 4 ∧ (∀ y ∈ new, y.n ≤ cs.length + 3 ∧ y.k = es.length) ∧
      (∀ k, footE vb' (es ++ new) k → footE vb es k ∨ (Value.slice al cs.length cap).ownBlock = some k ∨ w.heap.size ≤ k) ∧ w.turned w' (fun k => k = bp ∨ vb.ownBlock = some k ∨ (Value.slice al cs.length cap).ownBlock = some k) := by
  obtain ⟨g0, g1, g2, g3, gf⟩ := book_cells hbk
  obtain ⟨ab, capb, hvb⟩ := ho.own.len
  rw [List.length_map] at hvb
  have hbp : bp < w.heap.size := (Array.getElem?_eq_some_iff.1 hbk).1
  subst hvb
  have hby0 : ∀ k, k ≤ 3 → (cs.length + k + 1) * 24 ≤ 140737488355328 := bndRes_m hn
  have hby3 : ∀ k, k ≤ 3 → (es.length + (k + 1) + 1) * 32 ≤ 140737488355328 := bndRes_a he
  have hln3 : ∀ k, k ≤ 3 → es.length + (k + 1) + 1 ≤ maxLen := bndRes_b he
  have hln0 : ∀ k, k ≤ 3 → cs.length + k + 1 ≤ maxLen := bndRes_d hn
  go_enter Try.func66, Try.ntmps66
  go_wp2_with fail
  go_loopw [6] (fun i wr => ∃ k : Nat, k ≤ cs.length ∧ i = .int .i64 k ∧ wr.ownL 72 3 (.slice al cs.length cap) (List.replicate k (mkRes es.length) ++ cs.drop k) ∧ (w.alloc (.cells (mkRes es.length).toArray 72)).turned wr (fun j => (Value.slice al cs.length cap).ownBlock = some j) ∧ wr.heap[w.heap.size]? = some (.cells (mkRes es.length).toArray 72)) (fun i _ => cs.length - (intOf i).toNat)
  case atStart => exact ⟨0, Nat.zero_le _, rfl, hl.alloc _, World.turned.refl _ _, heap_alloc_new w _⟩
  case round =>
    obtain ⟨k, hk, rfl, ho1, ht1, hm1⟩ := hrel
    by_cases hlt : k < cs.length
    · obtain ⟨g, rfl⟩ : ∃ g, al = some ⟨g, 0, none⟩ := by
        rcases ho1.1.2 with ⟨_, h2⟩ | ⟨g, cap', cur, h1, _⟩
        · simp at h2; omega
        · injection h1 with h1; exact ⟨g, h1⟩
      have hlen : (List.replicate k (mkRes es.length) ++ cs.drop k).length = cs.length := by simp; omega
      have hset : (List.replicate k (mkRes es.length) ++ cs.drop k).set k (mkRes es.length) = List.replicate (k + 1) (mkRes es.length) ++ cs.drop (k + 1) := by
        rw [List.set_append_right _ _ (by simp), List.length_replicate, Nat.sub_self, List.drop_eq_getElem_cons hlt, List.set_cons_zero, List.replicate_succ', List.append_assoc]; rfl
      obtain ⟨m0, m1, m2⟩ := mkRes_at hm1
      go_wp2_with (refine wpL_store rfl 72 _ _ rfl 72 3 _ _ ho1 k (by rw [hlen]; exact hlt) g cs.length cap rfl _ rfl rfl (mkRes es.length).toArray rfl (by kernel_rfl) rfl (by simpa using mkRes_one es.length) ?_; intro w2 ho2 hg2)
      rw [show (mkRes es.length).toArray.toList = mkRes es.length by simp, hset] at ho2
      refine ⟨⟨k + 1, by omega, val_int (by omega), ho2, ht1.grew hg2 (fun j _ hj => hj), ?_⟩, by simp [intOf]; omega⟩
      rw [hg2.keep (Array.getElem?_eq_some_iff.1 hm1).1 (fun h => by have := hl.lt h; omega)]
      exact hm1
    · have hkk : k = cs.length := by omega
      subst hkk
      rw [List.drop_of_length_le (Nat.le_refl _), List.append_nil] at ho1
      have hm0 : w.heap.size < wr.heap.size := (Array.getElem?_eq_some_iff.1 hm1).1
      have hO : Owning (w.alloc (.cells (mkRes es.length).toArray 72)) wr 43 72 127 3 mkRes bp (fun v => #[v, a, b, c]) (.slice ab es.length capb) (.slice al cs.length cap) es es.length cs.length (.slice al cs.length cap) (.slice ab es.length capb) [] := by
        refine ⟨?_, ?_, ho1, fun x hx => ?_, fun x hx => ?_, fun x hx => .inl hx, ht1.mono fun k _ hk => .inr (.inr hk), fun y hy => nomatch hy⟩
        · rw [ht1.block bp (by simp; omega) fun hx => (hsep bp hx).1 rfl]; exact Hp.alloc hbk _
        · rw [List.append_nil]; exact (ho.keep fun k hk => Below.heap_alloc _ _ _ (ho.foot_lt hk)).turned ht1 fun k hk hx => (hsep k hx).2 hk
        · have h1 := hsep x hx
          refine ⟨h1.1, fun he => h1.2 (.inl he), fun y hy hyx => absurd (.inr ⟨y, by simpa using hy, hyx⟩) h1.2⟩
        · rw [List.append_nil] at hx; exact .inl hx
      have ho0 : ∀ {k}, (Value.slice ab es.length capb).ownBlock = some k → k < w.heap.size := fun h => ho.own.lt h
      have hf0 : ∀ {k}, footE (.slice ab es.length capb) es k → k < w.heap.size := fun h => ho.foot_lt h
      have hv0 : ∀ {k}, (Value.slice al cs.length cap).ownBlock = some k → k < w.heap.size := fun h => hl.lt h
      clear ho1 ht1 ho hbk hl hsep g0 g1 g2 g3 gf
      obtain ⟨m0, m1, m2⟩ := mkRes_at hm1
      obtain ⟨g0, g1, g2, g3, gf⟩ := book_cells hO.bk
      have hbpr := hO.lt
      have hlen1 : ((es ++ []).map Ent.row).length + 1 ≤ maxLen := by simp only [List.length_map, List.length_append, List.length_nil, maxLen]; omega
      have hby1 : (((es ++ []).map Ent.row).length + 1) * 32 ≤ 140737488355328 := by simp only [List.length_map, List.length_append, List.length_nil]; omega
      have hone : ∀ u ∈ (#[.slice al cs.length cap, .int .i64 es.length] : Array Value).toList, u.oneCell' = true := by
        intro u hu
        simp only [List.mem_cons, List.not_mem_nil, or_false] at hu
        rcases hu with rfl | rfl <;> rfl
      go_wp2_with (at_builtin; refine Held.out ?_)
      unfold Held
      refine wpL_new rfl _ _ 38 rfl 127 2 32 _ Try.underlying38 infoResO rfl (by decide) (.slice ab es.length capb) _ rfl (hO.alloc _).out.own #[.slice al cs.length cap, .int .i64 es.length] _ rfl ?hc rfl hone hlen1 hby1 ?_
      case hc => exact new_cells' (by simp [go_sem]) rfl
      intro a1 cap1 w1 ho1 hg1 hB1
      have e1 : ((es ++ []).map Ent.row).length = es.length := by simp
      rw [e1] at ho1 hg1 hB1 ⊢
      have hb1 : w1.heap[bp]? = some (.cells #[.slice ab es.length capb, a, b, c] 43) := (hg1.keep (by simp; omega) hO.out.nb).trans (Hp.alloc hO.bk _)
      have hO2 := (hO.alloc _).put (o := 0) hg1 ho1 (fun x y => rfl)
      clear hlen1 hby1
      have hm2 : w1.heap[w.heap.size]? = some (.cells (mkRes es.length).toArray 72) := (hg1.keep (by simp; omega) (fun h => by have := ho0 h; omega)).trans (Hp.alloc hm1 _)
      have hm3 : (w1.setCell ⟨bp, 0, none⟩ (.slice a1 (es.length + 1) cap1)).heap[w.heap.size]? = some (.cells (mkRes es.length).toArray 72) := Hp.set hm2 (by simp; omega) _
      clear hO hm1 hm2 ho1 hg1 hB1 m0 m1 m2 g0 g1 g2 g3 gf
      obtain ⟨g0, g1, g2, g3, gf⟩ := book_cells hb1
      go_wp2_with fail
      go_loopw [1, 7] (fun l j wr2 => ∃ k : Nat, k ≤ 3 ∧ j = .int .i64 k ∧ ∃ al2 cap2 vb2 new, l = .slice al2 (cs.length + k) cap2 ∧ new.length = k + 1 ∧ Owning (w.alloc (.cells (mkRes es.length).toArray 72)) wr2 43 72 127 3 mkRes bp (fun v => #[v, a, b, c]) (.slice ab es.length capb) (.slice al cs.length cap) es es.length (cs.length + k) (.slice al2 (cs.length + k) cap2) vb2 new ∧ wr2.heap[w.heap.size]? = some (.cells (mkRes es.length).toArray 72)) (fun _ j _ => 3 - (intOf j).toNat)
      case atStart => exact ⟨0, by omega, rfl, al, cap, _, _, rfl, rfl, hO2, hm3⟩
      case round =>
        obtain ⟨k, hk, rfl, al2, cap2, vb2, new, rfl, hnl, hO, hm1⟩ := hrel
        have hbpr := hO.lt
        have hm0 : w.heap.size < wr.heap.size := (Array.getElem?_eq_some_iff.1 hm1).1
        by_cases hlt : k < 3
        · obtain ⟨m0, m1, m2⟩ := mkRes_at hm1
          have hlen1 : (List.replicate (cs.length + k) (mkRes es.length)).length + 1 ≤ maxLen := by rw [List.length_replicate]; exact hln0 k hk
          have hby1 : ((List.replicate (cs.length + k) (mkRes es.length)).length + 1) * 24 ≤ 140737488355328 := by rw [List.length_replicate]; exact hby0 k hk
          have hone : ∀ u ∈ (mkRes es.length).toArray.toList, u.oneCell' = true := by simpa using mkRes_one es.length
          go_wp2_with (at_builtin; refine Held.out ?_)
          unfold Held
          refine wpL_new rfl _ _ 68 rfl 72 3 24 _ Try.underlying68 infoResL rfl (by decide) (.slice al2 (cs.length + k) cap2) _ rfl (hO.alloc _).own (mkRes es.length).toArray _ rfl ?hc rfl hone hlen1 hby1 ?_
          case hc => exact new_cells' (by simp [go_sem]) rfl
          intro a1 cap1 w1 ho1 hg1 hB1
          rw [List.length_replicate] at ho1 hg1 hB1 ⊢
          have hO2 := (hO.alloc _).more hg1 (by simpa [List.replicate_succ'] using ho1) hB1
          have hb1 := hO2.bk
          have hm2 : w1.heap[w.heap.size]? = some (.cells (mkRes es.length).toArray 72) := (hg1.keep (by simp; omega) (fun h => (hO.lfoot _ h).elim (fun h1 => Nat.lt_irrefl _ (hv0 h1)) (fun h1 => by simp at h1; omega))).trans (Hp.alloc hm1 _)
          clear hO ho1 hg1 hB1 m0 m1 m2 hm1 hlen1 hby1
          obtain ⟨g0, g1, g2, g3, gf⟩ := book_cells hb1
          obtain ⟨ab2, capb2, hv2⟩ := hO2.out.own.len
          have e2 : ((es ++ new).map Ent.row).length = es.length + (k + 1) := by simp [hnl]
          rw [e2] at hv2
          subst hv2
          have hlen2 : ((es ++ new).map Ent.row).length + 1 ≤ maxLen := by rw [e2]; exact hln3 k hk
          have hby2 : (((es ++ new).map Ent.row).length + 1) * 32 ≤ 140737488355328 := by rw [e2]; exact hby3 k hk
          have hone2 : ∀ u ∈ (#[.slice a1 (cs.length + k + 1) cap1, .int .i64 es.length] : Array Value).toList, u.oneCell' = true := by
            intro u hu
            simp only [List.mem_cons, List.not_mem_nil, or_false] at hu
            rcases hu with rfl | rfl <;> rfl
          have hm0 : w.heap.size < w1.heap.size := (Array.getElem?_eq_some_iff.1 hm2).1
          have hbp1 := hO2.lt
          go_wp2_with (at_builtin; refine Held.out ?_)
          unfold Held
          refine wpL_new rfl _ _ 38 rfl 127 2 32 _ Try.underlying38 infoResO rfl (by decide) (.slice ab2 (es.length + (k + 1)) capb2) _ rfl (hO2.alloc _).out.own #[.slice a1 (cs.length + k + 1) cap1, .int .i64 es.length] _ rfl ?hc rfl hone2 hlen2 hby2 ?_
          case hc => exact new_cells' (by simp [go_sem]) rfl
          intro a3 cap3 w3 ho3 hg3 hB3
          rw [e2] at ho3 hg3 hB3 ⊢
          have hb3 : w3.heap[bp]? = some (.cells #[.slice ab2 (es.length + (k + 1)) capb2, a, b, c] 43) := (hg3.keep (by simp; omega) hO2.out.nb).trans (Hp.alloc hO2.bk _)
          have hm4 : w3.heap[w.heap.size]? = some (.cells (mkRes es.length).toArray 72) := (hg3.keep (by simp; omega) (fun h => (hO2.foot _ (.inl h)).elim (fun h1 => Nat.lt_irrefl _ (hf0 h1)) (fun h1 => h1.elim (fun h1 => Nat.lt_irrefl _ (hv0 h1)) (fun h1 => by simp at h1; omega)))).trans (Hp.alloc hm2 _)
          have hO4 := (hO2.alloc _).put (o := 0) hg3 ho3 (fun x y => rfl)
          clear g0 g1 g2 g3 gf
          obtain ⟨g0, g1, g2, g3, gf⟩ := book_cells hb3
          go_wp2_with fail
          exact ⟨⟨k + 1, by omega, val_int (by omega), a1, cap1, _, _, rfl, by simp [hnl], hO4, Hp.set hm4 (by simp; omega) _⟩, by simp [intOf]; omega⟩
        · have hkk : k = 3 := by omega
          subst hkk
          go_wp2
          go_end0
          refine ⟨rfl, vb2, new, hO.bk, hO.out, by omega, hO.ns, fun x hx => ?_, ?_⟩
          · rcases hO.foot x hx with h1 | h1 | h1
            · exact .inl h1
            · exact .inr (.inl h1)
            · exact .inr (.inr (by simp at h1; omega))
          · exact ((World.turned.refl w _).alloc _).trans hO.turned fun _ _ h => h
end Go.Proofs.Ytcbbnmodjnnbeaa
/- The law's book takes a list: ownFounds. -/
set_option linter.unusedSimpArgs false
set_option linter.unusedVariables false
namespace Go.Proofs.Ytcbbnmodjnnbeaa
open Go.RowKit

theorem bndFnd_a {n : Nat} (he : n ≤ 1000000000) : ∀ k, k ≤ 3 → (n + (k + 1) + 1) * 32 ≤ 140737488355328 := by omega
theorem bndFnd_b {n : Nat} (he : n ≤ 1000000000) : ∀ k, k ≤ 3 → n + (k + 1) + 1 ≤ maxLen := by unfold maxLen; omega
theorem bndFnd_m {n : Nat} (hn : n ≤ 100000000000) : ∀ k, k ≤ 3 → (n + k + 1) * 40 ≤ 140737488355328 := by omega
theorem bndFnd_d {n : Nat} (hn : n ≤ 100000000000) : ∀ k, k ≤ 3 → n + k + 1 ≤ maxLen := by unfold maxLen; omega
theorem infoFndL : (Try.prog.info? 131).map (fun i => (i.zero, i.size, i.bytes)) = some (some (.agg #[.string ⟨#[]⟩, .string ⟨#[]⟩, .int .i64 0]), 3, 40) := by kernel_rfl
theorem infoFndO : (Try.prog.info? 129).map (fun i => (i.zero, i.size, i.bytes)) = some (some (.agg #[.slice none 0 0, .int .i64 0]), 2, 32) := by kernel_rfl
set_option maxRecDepth 100000 in
set_option maxHeartbeats 2000000 in
theorem ownFounds (w : World) (bp : Nat) (a b c vb : Value) (es : List Ent) (al : Option Addr) (cap : Nat) (cs : List (List Value))
    (hbk : w.heap[bp]? = some (.cells #[a, vb, b, c] 43)) (ho : Outs w 129 3 mkFnd bp vb es) (hl : w.ownL 131 3 (.slice al cs.length cap) cs)
    (hsep : ∀ k, (Value.slice al cs.length cap).ownBlock = some k → k ≠ bp ∧ ¬ footE vb es k) (hn : cs.length ≤ 100000000000) (he : es.length ≤ 1000000000) :
    Calls Try.prog 68 #[.pointer (some ⟨bp, 0, none⟩), .slice al cs.length cap] w fun e w' => e = .returned (.tuple #[]) ∧ ∃ vb' new, w'.heap[bp]? = some (.cells #[a, vb', b, c] 43) ∧ Outs w' 129 3 mkFnd bp vb' (es ++ new) ∧ new.length = 4 ∧ (∀ y ∈ new, y.n ≤ cs.length + 3 ∧ y.k = es.length) ∧
      (∀ k, footE vb' (es ++ new) k → footE vb es k ∨ (Value.slice al cs.length cap).ownBlock = some k ∨ w.heap.size ≤ k) ∧ w.turned w' (fun k => k = bp ∨ vb.ownBlock = some k ∨ (Value.slice al cs.length cap).ownBlock = some k) := by
  obtain ⟨g0, g1, g2, g3, gf⟩ := book_cells hbk
  obtain ⟨ab, capb, hvb⟩ := ho.own.len
  rw [List.length_map] at hvb
  have hbp : bp < w.heap.size := (Array.getElem?_eq_some_iff.1 hbk).1
  subst hvb
  have hby0 : ∀ k, k ≤ 3 → (cs.length + k + 1) * 40 ≤ 140737488355328 := bndFnd_m hn
  have hby3 : ∀ k, k ≤ 3 → (es.length + (k + 1) + 1) * 32 ≤ 140737488355328 := bndFnd_a he
  have hln3 : ∀ k, k ≤ 3 → es.length + (k + 1) + 1 ≤ maxLen := bndFnd_b he
  have hln0 : ∀ k, k ≤ 3 → cs.length + k + 1 ≤ maxLen := bndFnd_d hn
  go_enter Try.func68, Try.ntmps68
  go_wp2_with fail
  go_loopw [6] (fun i wr => ∃ k : Nat, k ≤ cs.length ∧ i = .int .i64 k ∧ wr.ownL 131 3 (.slice al cs.length cap) (List.replicate k (mkFnd es.length) ++ cs.drop k) ∧ (w.alloc (.cells (mkFnd es.length).toArray 131)).turned wr (fun j => (Value.slice al cs.length cap).ownBlock = some j) ∧ wr.heap[w.heap.size]? = some (.cells (mkFnd es.length).toArray 131)) (fun i _ => cs.length - (intOf i).toNat)
  case atStart => exact ⟨0, Nat.zero_le _, rfl, hl.alloc _, World.turned.refl _ _, heap_alloc_new w _⟩
  case round =>
    obtain ⟨k, hk, rfl, ho1, ht1, hm1⟩ := hrel
    by_cases hlt : k < cs.length
    · obtain ⟨g, rfl⟩ : ∃ g, al = some ⟨g, 0, none⟩ := by
        rcases ho1.1.2 with ⟨_, h2⟩ | ⟨g, cap', cur, h1, _⟩
        · simp at h2; omega
        · injection h1 with h1; exact ⟨g, h1⟩
      have hlen : (List.replicate k (mkFnd es.length) ++ cs.drop k).length = cs.length := by simp; omega
      have hset : (List.replicate k (mkFnd es.length) ++ cs.drop k).set k (mkFnd es.length) = List.replicate (k + 1) (mkFnd es.length) ++ cs.drop (k + 1) := by
        rw [List.set_append_right _ _ (by simp), List.length_replicate, Nat.sub_self, List.drop_eq_getElem_cons hlt, List.set_cons_zero, List.replicate_succ', List.append_assoc]; rfl
      obtain ⟨m0, m1, m2⟩ := mkFnd_at hm1
      go_wp2_with (refine wpL_store rfl 131 _ _ rfl 131 3 _ _ ho1 k (by rw [hlen]; exact hlt) g cs.length cap rfl _ rfl rfl (mkFnd es.length).toArray rfl (by kernel_rfl) rfl (by simpa using mkFnd_one es.length) ?_; intro w2 ho2 hg2)
      rw [show (mkFnd es.length).toArray.toList = mkFnd es.length by simp, hset] at ho2
      refine ⟨⟨k + 1, by omega, val_int (by omega), ho2, ht1.grew hg2 (fun j _ hj => hj), ?_⟩, by simp [intOf]; omega⟩
      rw [hg2.keep (Array.getElem?_eq_some_iff.1 hm1).1 (fun h => by have := hl.lt h; omega)]
      exact hm1
    · have hkk : k = cs.length := by omega
      subst hkk
      rw [List.drop_of_length_le (Nat.le_refl _), List.append_nil] at ho1
      have hm0 : w.heap.size < wr.heap.size := (Array.getElem?_eq_some_iff.1 hm1).1
      have hO : Owning (w.alloc (.cells (mkFnd es.length).toArray 131)) wr 43 131 129 3 mkFnd bp (fun v => #[a, v, b, c]) (.slice ab es.length capb) (.slice al cs.length cap) es es.length cs.length (.slice al cs.length cap) (.slice ab es.length capb) [] := by
        refine ⟨?_, ?_, ho1, fun x hx => ?_, fun x hx => ?_, fun x hx => .inl hx, ht1.mono fun k _ hk => .inr (.inr hk), fun y hy => nomatch hy⟩
        · rw [ht1.block bp (by simp; omega) fun hx => (hsep bp hx).1 rfl]; exact Hp.alloc hbk _
        · rw [List.append_nil]; exact (ho.keep fun k hk => Below.heap_alloc _ _ _ (ho.foot_lt hk)).turned ht1 fun k hk hx => (hsep k hx).2 hk
        · have h1 := hsep x hx
          refine ⟨h1.1, fun he => h1.2 (.inl he), fun y hy hyx => absurd (.inr ⟨y, by simpa using hy, hyx⟩) h1.2⟩
        · rw [List.append_nil] at hx; exact .inl hx
      have ho0 : ∀ {k}, (Value.slice ab es.length capb).ownBlock = some k → k < w.heap.size := fun h => ho.own.lt h
      have hf0 : ∀ {k}, footE (.slice ab es.length capb) es k → k < w.heap.size := fun h => ho.foot_lt h
      have hv0 : ∀ {k}, (Value.slice al cs.length cap).ownBlock = some k → k < w.heap.size := fun h => hl.lt h
      clear ho1 ht1 ho hbk hl hsep g0 g1 g2 g3 gf
      obtain ⟨m0, m1, m2⟩ := mkFnd_at hm1
      obtain ⟨g0, g1, g2, g3, gf⟩ := book_cells hO.bk
      have hbpr := hO.lt
      have hlen1 : ((es ++ []).map Ent.row).length + 1 ≤ maxLen := by simp only [List.length_map, List.length_append, List.length_nil, maxLen]; omega
      have hby1 : (((es ++ []).map Ent.row).length + 1) * 32 ≤ 140737488355328 := by simp only [List.length_map, List.length_append, List.length_nil]; omega
      have hone : ∀ u ∈ (#[.slice al cs.length cap, .int .i64 es.length] : Array Value).toList, u.oneCell' = true := by
        intro u hu
        simp only [List.mem_cons, List.not_mem_nil, or_false] at hu
        rcases hu with rfl | rfl <;> rfl
      go_wp2_with (at_builtin; refine Held.out ?_)
      unfold Held
      refine wpL_new rfl _ _ 39 rfl 129 2 32 _ Try.underlying39 infoFndO rfl (by decide) (.slice ab es.length capb) _ rfl (hO.alloc _).out.own #[.slice al cs.length cap, .int .i64 es.length] _ rfl ?hc rfl hone hlen1 hby1 ?_
      case hc => exact new_cells' (by simp [go_sem]) rfl
      intro a1 cap1 w1 ho1 hg1 hB1
      have e1 : ((es ++ []).map Ent.row).length = es.length := by simp
      rw [e1] at ho1 hg1 hB1 ⊢
      have hb1 : w1.heap[bp]? = some (.cells #[a, .slice ab es.length capb, b, c] 43) := (hg1.keep (by simp; omega) hO.out.nb).trans (Hp.alloc hO.bk _)
      have hO2 := (hO.alloc _).put (o := 1) hg1 ho1 (fun x y => rfl)
      clear hlen1 hby1
      have hm2 : w1.heap[w.heap.size]? = some (.cells (mkFnd es.length).toArray 131) := (hg1.keep (by simp; omega) (fun h => by have := ho0 h; omega)).trans (Hp.alloc hm1 _)
      have hm3 : (w1.setCell ⟨bp, 1, none⟩ (.slice a1 (es.length + 1) cap1)).heap[w.heap.size]? = some (.cells (mkFnd es.length).toArray 131) := Hp.set hm2 (by simp; omega) _
      clear hO hm1 hm2 ho1 hg1 hB1 m0 m1 m2 g0 g1 g2 g3 gf
      obtain ⟨g0, g1, g2, g3, gf⟩ := book_cells hb1
      go_wp2_with fail
      go_loopw [1, 7] (fun l j wr2 => ∃ k : Nat, k ≤ 3 ∧ j = .int .i64 k ∧ ∃ al2 cap2 vb2 new, l = .slice al2 (cs.length + k) cap2 ∧ new.length = k + 1 ∧ Owning (w.alloc (.cells (mkFnd es.length).toArray 131)) wr2 43 131 129 3 mkFnd bp (fun v => #[a, v, b, c]) (.slice ab es.length capb) (.slice al cs.length cap) es es.length (cs.length + k) (.slice al2 (cs.length + k) cap2) vb2 new ∧ wr2.heap[w.heap.size]? = some (.cells (mkFnd es.length).toArray 131)) (fun _ j _ => 3 - (intOf j).toNat)
      case atStart => exact ⟨0, by omega, rfl, al, cap, _, _, rfl, rfl, hO2, hm3⟩
      case round =>
        obtain ⟨k, hk, rfl, al2, cap2, vb2, new, rfl, hnl, hO, hm1⟩ := hrel
        have hbpr := hO.lt
        have hm0 : w.heap.size < wr.heap.size := (Array.getElem?_eq_some_iff.1 hm1).1
        by_cases hlt : k < 3
        · obtain ⟨m0, m1, m2⟩ := mkFnd_at hm1
          have hlen1 : (List.replicate (cs.length + k) (mkFnd es.length)).length + 1 ≤ maxLen := by rw [List.length_replicate]; exact hln0 k hk
          have hby1 : ((List.replicate (cs.length + k) (mkFnd es.length)).length + 1) * 40 ≤ 140737488355328 := by rw [List.length_replicate]; exact hby0 k hk
          have hone : ∀ u ∈ (mkFnd es.length).toArray.toList, u.oneCell' = true := by simpa using mkFnd_one es.length
          go_wp2_with (at_builtin; refine Held.out ?_)
          unfold Held
          refine wpL_new rfl _ _ 73 rfl 131 3 40 _ Try.underlying73 infoFndL rfl (by decide) (.slice al2 (cs.length + k) cap2) _ rfl (hO.alloc _).own (mkFnd es.length).toArray _ rfl ?hc rfl hone hlen1 hby1 ?_
          case hc => exact new_cells' (by simp [go_sem]) rfl
          intro a1 cap1 w1 ho1 hg1 hB1
          rw [List.length_replicate] at ho1 hg1 hB1 ⊢
          have hO2 := (hO.alloc _).more hg1 (by simpa [List.replicate_succ'] using ho1) hB1
          have hb1 := hO2.bk
          have hm2 : w1.heap[w.heap.size]? = some (.cells (mkFnd es.length).toArray 131) := (hg1.keep (by simp; omega) (fun h => (hO.lfoot _ h).elim (fun h1 => Nat.lt_irrefl _ (hv0 h1)) (fun h1 => by simp at h1; omega))).trans (Hp.alloc hm1 _)
          clear hO ho1 hg1 hB1 m0 m1 m2 hm1 hlen1 hby1
          obtain ⟨g0, g1, g2, g3, gf⟩ := book_cells hb1
          obtain ⟨ab2, capb2, hv2⟩ := hO2.out.own.len
          have e2 : ((es ++ new).map Ent.row).length = es.length + (k + 1) := by simp [hnl]
          rw [e2] at hv2
          subst hv2
          have hlen2 : ((es ++ new).map Ent.row).length + 1 ≤ maxLen := by rw [e2]; exact hln3 k hk
          have hby2 : (((es ++ new).map Ent.row).length + 1) * 32 ≤ 140737488355328 := by rw [e2]; exact hby3 k hk
          have hone2 : ∀ u ∈ (#[.slice a1 (cs.length + k + 1) cap1, .int .i64 es.length] : Array Value).toList, u.oneCell' = true := by
            intro u hu
            simp only [List.mem_cons, List.not_mem_nil, or_false] at hu
            rcases hu with rfl | rfl <;> rfl
          have hm0 : w.heap.size < w1.heap.size := (Array.getElem?_eq_some_iff.1 hm2).1
          have hbp1 := hO2.lt
          go_wp2_with (at_builtin; refine Held.out ?_)
          unfold Held
          refine wpL_new rfl _ _ 39 rfl 129 2 32 _ Try.underlying39 infoFndO rfl (by decide) (.slice ab2 (es.length + (k + 1)) capb2) _ rfl (hO2.alloc _).out.own #[.slice a1 (cs.length + k + 1) cap1, .int .i64 es.length] _ rfl ?hc rfl hone2 hlen2 hby2 ?_
          case hc => exact new_cells' (by simp [go_sem]) rfl
          intro a3 cap3 w3 ho3 hg3 hB3
          rw [e2] at ho3 hg3 hB3 ⊢
          have hb3 : w3.heap[bp]? = some (.cells #[a, .slice ab2 (es.length + (k + 1)) capb2, b, c] 43) := (hg3.keep (by simp; omega) hO2.out.nb).trans (Hp.alloc hO2.bk _)
          have hm4 : w3.heap[w.heap.size]? = some (.cells (mkFnd es.length).toArray 131) := (hg3.keep (by simp; omega) (fun h => (hO2.foot _ (.inl h)).elim (fun h1 => Nat.lt_irrefl _ (hf0 h1)) (fun h1 => h1.elim (fun h1 => Nat.lt_irrefl _ (hv0 h1)) (fun h1 => by simp at h1; omega)))).trans (Hp.alloc hm2 _)
          have hO4 := (hO2.alloc _).put (o := 1) hg3 ho3 (fun x y => rfl)
          clear g0 g1 g2 g3 gf
          obtain ⟨g0, g1, g2, g3, gf⟩ := book_cells hb3
          go_wp2_with fail
          exact ⟨⟨k + 1, by omega, val_int (by omega), a1, cap1, _, _, rfl, by simp [hnl], hO4, Hp.set hm4 (by simp; omega) _⟩, by simp [intOf]; omega⟩
        · have hkk : k = 3 := by omega
          subst hkk
          go_wp2
          go_end0
          refine ⟨rfl, vb2, new, hO.bk, hO.out, by omega, hO.ns, fun x hx => ?_, ?_⟩
          · rcases hO.foot x hx with h1 | h1 | h1
            · exact .inl h1
            · exact .inr (.inl h1)
            · exact .inr (.inr (by simp at h1; omega))
          · exact ((World.turned.refl w _).alloc _).trans hO.turned fun _ _ h => h
end Go.Proofs.Ytcbbnmodjnnbeaa
