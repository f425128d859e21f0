/- The law's book takes a list: ownEntries. -/
import Derived.Test.YtcbbnmodjnnbeaaSameRec
import Derived.Test.YtcbbnmodjnnbeaaPack2
import Derived.Deep.DeepMust
set_option linter.unusedSimpArgs false
set_option linter.unusedVariables false
namespace Go.Proofs.Ytcbbnmodjnnbeaa
open Go.RowKit

theorem bndEty_a {n : Nat} (he : n ≤ 1000000000) : ∀ k, k ≤ 3 → (n + (k + 1) + 1) * 32 ≤ 140737488355328 := by omega
theorem bndEty_b {n : Nat} (he : n ≤ 1000000000) : ∀ k, k ≤ 3 → n + (k + 1) + 1 ≤ maxLen := by unfold maxLen; omega
theorem bndEty_m {n : Nat} (hn : n ≤ 100000000000) : ∀ k, k ≤ 3 → (n + k + 1) * 88 ≤ 140737488355328 := by omega
theorem bndEty_d {n : Nat} (hn : n ≤ 100000000000) : ∀ k, k ≤ 3 → n + k + 1 ≤ maxLen := by unfold maxLen; omega
theorem infoEtyL : (Try.prog.info? 135).map (fun i => (i.zero, i.size, i.bytes)) = some (some (.agg #[.int .i64 0, .int .i64 0, .string ⟨#[]⟩, .string ⟨#[]⟩, .string ⟨#[]⟩, .int .i64 0, .int .i64 0, .int .i64 0]), 8, 88) := by kernel_rfl
theorem infoEtyO : (Try.prog.info? 133).map (fun i => (i.zero, i.size, i.bytes)) = some (some (.agg #[.slice none 0 0, .int .i64 0]), 2, 32) := by kernel_rfl
set_option maxRecDepth 100000 in
set_option maxHeartbeats 2000000 in
theorem ownEntries (w : World) (bp : Nat) (a b c vb : Value) (es : List Ent) (al : Option Addr) (cap : Nat) (cs : List (List Value))
    (hbk : w.heap[bp]? = some (.cells #[a, b, vb, c] 43)) (ho : Outs w 133 8 mkEty bp vb es) (hl : w.ownL 135 8 (.slice al cs.length cap) cs)
    (hsep : ∀ k, (Value.slice al cs.length cap).ownBlock = some k → k ≠ bp ∧ ¬ footE vb es k) (hn : cs.length ≤ 100000000000) (he : es.length ≤ 1000000000) :
    Calls Try.prog 137 #[.pointer (some ⟨bp, 0, none⟩), .slice al cs.length cap] w fun e w' => e = .returned (.tuple #[]) ∧ ∃ vb' new, w'.heap[bp]? = some (.cells #[a, b, vb', c] 43) ∧ Outs w' 133 8 mkEty bp vb' (es ++ new) ∧ new.length = 4 ∧ (∀ y ∈ new, y.n ≤ cs.length + 3 ∧ y.k = es.length) ∧
      (∀ k, footE vb' (es ++ new) k → footE vb es k ∨ (Value.slice al cs.length cap).ownBlock = some k ∨ w.heap.size ≤ k) ∧ w.turned w' (fun k => k = bp ∨ vb.ownBlock = some k ∨ (Value.slice al cs.length cap).ownBlock = some k) := by
  obtain ⟨g0, g1, g2, g3, gf⟩ := book_cells hbk
  obtain ⟨ab, capb, hvb⟩ := ho.own.len
  rw [List.length_map] at hvb
  have hbp : bp < w.heap.size := (Array.getElem?_eq_some_iff.1 hbk).1
  subst hvb
  have hby0 : ∀ k, k ≤ 3 → (cs.length + k + 1) * 88 ≤ 140737488355328 := bndEty_m hn
  have hby3 : ∀ k, k ≤ 3 → (es.length + (k + 1) + 1) * 32 ≤ 140737488355328 := bndEty_a he
  have hln3 : ∀ k, k ≤ 3 → es.length + (k + 1) + 1 ≤ maxLen := bndEty_b he
  have hln0 : ∀ k, k ≤ 3 → cs.length + k + 1 ≤ maxLen := bndEty_d hn
  go_enter Try.func137, Try.ntmps137
  go_wp2_with fail
  go_loopw [6] (fun i wr => ∃ k : Nat, k ≤ cs.length ∧ i = .int .i64 k ∧ wr.ownL 135 8 (.slice al cs.length cap) (List.replicate k (mkEty es.length) ++ cs.drop k) ∧ (w.alloc (.cells (mkEty es.length).toArray 135)).turned wr (fun j => (Value.slice al cs.length cap).ownBlock = some j) ∧ wr.heap[w.heap.size]? = some (.cells (mkEty es.length).toArray 135)) (fun i _ => cs.length - (intOf i).toNat)
  case atStart => exact ⟨0, Nat.zero_le _, rfl, hl.alloc _, World.turned.refl _ _, heap_alloc_new w _⟩
  case round =>
    obtain ⟨k, hk, rfl, ho1, ht1, hm1⟩ := hrel
    by_cases hlt : k < cs.length
    · obtain ⟨g, rfl⟩ : ∃ g, al = some ⟨g, 0, none⟩ := by
        rcases ho1.1.2 with ⟨_, h2⟩ | ⟨g, cap', cur, h1, _⟩
        · simp at h2; omega
        · injection h1 with h1; exact ⟨g, h1⟩
      have hlen : (List.replicate k (mkEty es.length) ++ cs.drop k).length = cs.length := by simp; omega
      have hset : (List.replicate k (mkEty es.length) ++ cs.drop k).set k (mkEty es.length) = List.replicate (k + 1) (mkEty es.length) ++ cs.drop (k + 1) := by
        rw [List.set_append_right _ _ (by simp), List.length_replicate, Nat.sub_self, List.drop_eq_getElem_cons hlt, List.set_cons_zero, List.replicate_succ', List.append_assoc]; rfl
      obtain ⟨m0, m1, m2, m3, m4, m5, m6, m7⟩ := mkEty_at hm1
      go_wp2_with (refine wpL_store rfl 135 _ _ rfl 135 8 _ _ ho1 k (by rw [hlen]; exact hlt) g cs.length cap rfl _ rfl rfl (mkEty es.length).toArray rfl (by kernel_rfl) rfl (by simpa using mkEty_one es.length) ?_; intro w2 ho2 hg2)
      rw [show (mkEty es.length).toArray.toList = mkEty es.length by simp, hset] at ho2
      refine ⟨⟨k + 1, by omega, val_int (by omega), ho2, ht1.grew hg2 (fun j _ hj => hj), ?_⟩, by simp [intOf]; omega⟩
      rw [hg2.keep (Array.getElem?_eq_some_iff.1 hm1).1 (fun h => by have := hl.lt h; omega)]
      exact hm1
    · have hkk : k = cs.length := by omega
      subst hkk
      rw [List.drop_of_length_le (Nat.le_refl _), List.append_nil] at ho1
      have hm0 : w.heap.size < wr.heap.size := (Array.getElem?_eq_some_iff.1 hm1).1
      have hO : Owning (w.alloc (.cells (mkEty es.length).toArray 135)) wr 43 135 133 8 mkEty bp (fun v => #[a, b, v, c]) (.slice ab es.length capb) (.slice al cs.length cap) es es.length cs.length (.slice al cs.length cap) (.slice ab es.length capb) [] := by
        refine ⟨?_, ?_, ho1, fun x hx => ?_, fun x hx => ?_, fun x hx => .inl hx, ht1.mono fun k _ hk => .inr (.inr hk), fun y hy => nomatch hy⟩
        · rw [ht1.block bp (by simp; omega) fun hx => (hsep bp hx).1 rfl]; exact Hp.alloc hbk _
        · rw [List.append_nil]; exact (ho.keep fun k hk => Below.heap_alloc _ _ _ (ho.foot_lt hk)).turned ht1 fun k hk hx => (hsep k hx).2 hk
        · have h1 := hsep x hx
          refine ⟨h1.1, fun he => h1.2 (.inl he), fun y hy hyx => absurd (.inr ⟨y, by simpa using hy, hyx⟩) h1.2⟩
        · rw [List.append_nil] at hx; exact .inl hx
      have ho0 : ∀ {k}, (Value.slice ab es.length capb).ownBlock = some k → k < w.heap.size := fun h => ho.own.lt h
      have hf0 : ∀ {k}, footE (.slice ab es.length capb) es k → k < w.heap.size := fun h => ho.foot_lt h
      have hv0 : ∀ {k}, (Value.slice al cs.length cap).ownBlock = some k → k < w.heap.size := fun h => hl.lt h
      clear ho1 ht1 ho hbk hl hsep g0 g1 g2 g3 gf
      obtain ⟨m0, m1, m2, m3, m4, m5, m6, m7⟩ := mkEty_at hm1
      obtain ⟨g0, g1, g2, g3, gf⟩ := book_cells hO.bk
      have hbpr := hO.lt
      have hlen1 : ((es ++ []).map Ent.row).length + 1 ≤ maxLen := by simp only [List.length_map, List.length_append, List.length_nil, maxLen]; omega
      have hby1 : (((es ++ []).map Ent.row).length + 1) * 32 ≤ 140737488355328 := by simp only [List.length_map, List.length_append, List.length_nil]; omega
      have hone : ∀ u ∈ (#[.slice al cs.length cap, .int .i64 es.length] : Array Value).toList, u.oneCell' = true := by
        intro u hu
        simp only [List.mem_cons, List.not_mem_nil, or_false] at hu
        rcases hu with rfl | rfl <;> rfl
      go_wp2_with (at_builtin; refine Held.out ?_)
      unfold Held
      refine wpL_new rfl _ _ 40 rfl 133 2 32 _ Try.underlying40 infoEtyO rfl (by decide) (.slice ab es.length capb) _ rfl (hO.alloc _).out.own #[.slice al cs.length cap, .int .i64 es.length] _ rfl ?hc rfl hone hlen1 hby1 ?_
      case hc => exact new_cells' (by simp [go_sem]) rfl
      intro a1 cap1 w1 ho1 hg1 hB1
      have e1 : ((es ++ []).map Ent.row).length = es.length := by simp
      rw [e1] at ho1 hg1 hB1 ⊢
      have hb1 : w1.heap[bp]? = some (.cells #[a, b, .slice ab es.length capb, c] 43) := (hg1.keep (by simp; omega) hO.out.nb).trans (Hp.alloc hO.bk _)
      have hO2 := (hO.alloc _).put (o := 2) hg1 ho1 (fun x y => rfl)
      clear hlen1 hby1
      have hm2 : w1.heap[w.heap.size]? = some (.cells (mkEty es.length).toArray 135) := (hg1.keep (by simp; omega) (fun h => by have := ho0 h; omega)).trans (Hp.alloc hm1 _)
      have hm3 : (w1.setCell ⟨bp, 2, none⟩ (.slice a1 (es.length + 1) cap1)).heap[w.heap.size]? = some (.cells (mkEty es.length).toArray 135) := Hp.set hm2 (by simp; omega) _
      clear hO hm1 hm2 ho1 hg1 hB1 m0 m1 m2 m3 m4 m5 m6 m7 g0 g1 g2 g3 gf
      obtain ⟨g0, g1, g2, g3, gf⟩ := book_cells hb1
      go_wp2_with fail
      go_loopw [1, 7] (fun l j wr2 => ∃ k : Nat, k ≤ 3 ∧ j = .int .i64 k ∧ ∃ al2 cap2 vb2 new, l = .slice al2 (cs.length + k) cap2 ∧ new.length = k + 1 ∧ Owning (w.alloc (.cells (mkEty es.length).toArray 135)) wr2 43 135 133 8 mkEty bp (fun v => #[a, b, v, c]) (.slice ab es.length capb) (.slice al cs.length cap) es es.length (cs.length + k) (.slice al2 (cs.length + k) cap2) vb2 new ∧ wr2.heap[w.heap.size]? = some (.cells (mkEty es.length).toArray 135)) (fun _ j _ => 3 - (intOf j).toNat)
      case atStart => exact ⟨0, by omega, rfl, al, cap, _, _, rfl, rfl, hO2, hm3⟩
      case round =>
        obtain ⟨k, hk, rfl, al2, cap2, vb2, new, rfl, hnl, hO, hm1⟩ := hrel
        have hbpr := hO.lt
        have hm0 : w.heap.size < wr.heap.size := (Array.getElem?_eq_some_iff.1 hm1).1
        by_cases hlt : k < 3
        · obtain ⟨m0, m1, m2, m3, m4, m5, m6, m7⟩ := mkEty_at hm1
          have hlen1 : (List.replicate (cs.length + k) (mkEty es.length)).length + 1 ≤ maxLen := by rw [List.length_replicate]; exact hln0 k hk
          have hby1 : ((List.replicate (cs.length + k) (mkEty es.length)).length + 1) * 88 ≤ 140737488355328 := by rw [List.length_replicate]; exact hby0 k hk
          have hone : ∀ u ∈ (mkEty es.length).toArray.toList, u.oneCell' = true := by simpa using mkEty_one es.length
          go_wp2_with (at_builtin; refine Held.out ?_)
          unfold Held
          refine wpL_new rfl _ _ 88 rfl 135 8 88 _ Try.underlying88 infoEtyL rfl (by decide) (.slice al2 (cs.length + k) cap2) _ rfl (hO.alloc _).own (mkEty es.length).toArray _ rfl ?hc rfl hone hlen1 hby1 ?_
          case hc => exact new_cells' (by simp [go_sem]) rfl
          intro a1 cap1 w1 ho1 hg1 hB1
          rw [List.length_replicate] at ho1 hg1 hB1 ⊢
          have hO2 := (hO.alloc _).more hg1 (by simpa [List.replicate_succ'] using ho1) hB1
          have hb1 := hO2.bk
          have hm2 : w1.heap[w.heap.size]? = some (.cells (mkEty es.length).toArray 135) := (hg1.keep (by simp; omega) (fun h => (hO.lfoot _ h).elim (fun h1 => Nat.lt_irrefl _ (hv0 h1)) (fun h1 => by simp at h1; omega))).trans (Hp.alloc hm1 _)
          clear hO ho1 hg1 hB1 m0 m1 m2 m3 m4 m5 m6 m7 hm1 hlen1 hby1
          obtain ⟨g0, g1, g2, g3, gf⟩ := book_cells hb1
          obtain ⟨ab2, capb2, hv2⟩ := hO2.out.own.len
          have e2 : ((es ++ new).map Ent.row).length = es.length + (k + 1) := by simp [hnl]
          rw [e2] at hv2
          subst hv2
          have hlen2 : ((es ++ new).map Ent.row).length + 1 ≤ maxLen := by rw [e2]; exact hln3 k hk
          have hby2 : (((es ++ new).map Ent.row).length + 1) * 32 ≤ 140737488355328 := by rw [e2]; exact hby3 k hk
          have hone2 : ∀ u ∈ (#[.slice a1 (cs.length + k + 1) cap1, .int .i64 es.length] : Array Value).toList, u.oneCell' = true := by
            intro u hu
            simp only [List.mem_cons, List.not_mem_nil, or_false] at hu
            rcases hu with rfl | rfl <;> rfl
          have hm0 : w.heap.size < w1.heap.size := (Array.getElem?_eq_some_iff.1 hm2).1
          have hbp1 := hO2.lt
          go_wp2_with (at_builtin; refine Held.out ?_)
          unfold Held
          refine wpL_new rfl _ _ 40 rfl 133 2 32 _ Try.underlying40 infoEtyO rfl (by decide) (.slice ab2 (es.length + (k + 1)) capb2) _ rfl (hO2.alloc _).out.own #[.slice a1 (cs.length + k + 1) cap1, .int .i64 es.length] _ rfl ?hc rfl hone2 hlen2 hby2 ?_
          case hc => exact new_cells' (by simp [go_sem]) rfl
          intro a3 cap3 w3 ho3 hg3 hB3
          rw [e2] at ho3 hg3 hB3 ⊢
          have hb3 : w3.heap[bp]? = some (.cells #[a, b, .slice ab2 (es.length + (k + 1)) capb2, c] 43) := (hg3.keep (by simp; omega) hO2.out.nb).trans (Hp.alloc hO2.bk _)
          have hm4 : w3.heap[w.heap.size]? = some (.cells (mkEty es.length).toArray 135) := (hg3.keep (by simp; omega) (fun h => (hO2.foot _ (.inl h)).elim (fun h1 => Nat.lt_irrefl _ (hf0 h1)) (fun h1 => h1.elim (fun h1 => Nat.lt_irrefl _ (hv0 h1)) (fun h1 => by simp at h1; omega)))).trans (Hp.alloc hm2 _)
          have hO4 := (hO2.alloc _).put (o := 2) hg3 ho3 (fun x y => rfl)
          clear g0 g1 g2 g3 gf
          obtain ⟨g0, g1, g2, g3, gf⟩ := book_cells hb3
          go_wp2_with fail
          exact ⟨⟨k + 1, by omega, val_int (by omega), a1, cap1, _, _, rfl, by simp [hnl], hO4, Hp.set hm4 (by simp; omega) _⟩, by simp [intOf]; omega⟩
        · have hkk : k = 3 := by omega
          subst hkk
          go_wp2
          go_end0
          refine ⟨rfl, vb2, new, hO.bk, hO.out, by omega, hO.ns, fun x hx => ?_, ?_⟩
          · rcases hO.foot x hx with h1 | h1 | h1
            · exact .inl h1
            · exact .inr (.inl h1)
            · exact .inr (.inr (by simp at h1; omega))
          · exact ((World.turned.refl w _).alloc _).trans hO.turned fun _ _ h => h
end Go.Proofs.Ytcbbnmodjnnbeaa
