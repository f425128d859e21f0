/- slices.Delete of the first so many versions; the store's from. -/
import Derived.Test.YtcbbnmodjnnbeaaStore
import Derived.Test.YtcbbnmodjnnbeaaLists2
import Derived.Deep.RegionLaw
import Derived.Outline
import Derived.Maps.RangeWalk
import Derived.Test.YtcbbnmodjnnbeaaEqs
import Derived.Test.YtcbbnmodjnnbeaaLay
set_option linter.unusedSimpArgs false
set_option linter.unusedVariables false
namespace Go
open Go.RowKit
theorem drop_flatten {α : Type} (sz : Nat) : ∀ (cs : List (List α)) (j : Nat), (∀ c ∈ cs, c.length = sz) → cs.flatten.drop (j * sz) = (cs.drop j).flatten
  | cs, 0, _ => by simp
  | [], j + 1, _ => by simp
  | x :: xs, j + 1, h => by
    have hx := h x (by simp)
    rw [List.flatten_cons, List.drop_succ_cons, ← drop_flatten sz xs j (fun c hc => h c (by simp [hc])), show (j + 1) * sz = x.length + j * sz by rw [Nat.succ_mul]; omega, List.drop_length_add_append]
/-- 'append(s[:0], s[j:]...)' at what is owned. -/
theorem run_del_append {P : Program} (w : World) (t ty e : TypeId) (i : TypeInfo) (ht : P.underlying t = some (.slice e)) (hi : P.info? e = some i) (g cap n j c : Nat) (cs : List (List Value)) (hown : w.ownL e i.size (.slice (some ⟨g, 0, none⟩) n cap) cs) (hj : j ≤ n) (h1 : ∀ c ∈ cs, ∀ u ∈ c, u.oneCell' = true) (ad : Addr) (had : j < n → ad = ⟨g, j * i.size, none⟩) :
    ∃ w', (Builtin.append_ #[t, t] ty #[.slice (some ⟨g, 0, none⟩) 0 cap, .slice (some ad) (n - j) c]).run P w = .ok (.slice (some ⟨g, 0, none⟩) (n - j) cap) w' ∧
      w'.ownL e i.size (.slice (some ⟨g, 0, none⟩) (n - j) cap) (cs.drop j) ∧ Grew w w' (.slice (some ⟨g, 0, none⟩) n cap) (.slice (some ⟨g, 0, none⟩) (n - j) cap) ∧ ∃ cur, w'.heap[g]? = some (.cells cur e (0, 0)) ∧ cur.size = cap * i.size ∧ n ≤ cap := by
  have hoff := hown.off0 (g := g) rfl
  have hcells := World.ownsRow.cells hown.1 (g := g) rfl
  obtain ⟨h2, h3⟩ := hown
  rcases h2.2 with ⟨hv, _⟩ | ⟨g', cap', cur, hv, _, hb, r1, r2, r3, r4⟩
  · cases hv
  · injection hv with hv1 hv2 hv3
    injection hv1 with hv1
    injection hv1 with hv1
    subst hv1 hv3
    have hn : n = cs.length := hv2
    subst hn
    have hnl : (cs.drop j).flatten.length = (cs.length - j) * i.size := by rw [flatten_len i.size _ (fun c hc => h3 c (List.mem_of_mem_drop hc)), List.length_drop]
    have hnews : ∀ k u, (cs.drop j).flatten[k]? = some u → w.cell? (ad.add k) = some u := by
      intro k u hk
      have hkl : k < (cs.drop j).flatten.length := (List.getElem?_eq_some_iff.1 hk).1
      rw [had (by
        rcases Nat.lt_or_ge j cs.length with h | h
        · exact h
        · rw [hnl, show cs.length - j = 0 by omega, Nat.zero_mul] at hkl; omega)]
      rw [← drop_flatten i.size cs j h3, List.getElem?_drop] at hk
      have := hcells (j * i.size + k) u hk
      rw [Addr.add_lit] at *
      simpa using this
    have hone : ∀ u ∈ (cs.drop j).flatten, u.oneCell' = true := fun u hu => by
      obtain ⟨c, hc, hu⟩ := List.mem_flatten.1 hu
      exact h1 c (List.mem_of_mem_drop hc) u hu
    obtain ⟨news, hN⟩ : ∃ news, news = (cs.drop j).flatten := ⟨_, rfl⟩
    rw [← hN] at hnl hnews hone
    have hs : Src P i.size t (.slice (some ad) (cs.length - j) c) (cs.length - j) news w := Src.ofSlice w ht _ _ _ _ hnl hnews hone
    have hle : (cs.length - j) * i.size ≤ cap * i.size := Nat.mul_le_mul_right _ (by omega)
    have hroom : cs.length - j ≤ cap := by omega
    have hst := run_storeCells_at P g 0 e news 0 cur w hb (by omega) hs.one
    simp only [Nat.add_zero, Nat.zero_add] at hst
    refine ⟨w.setRow g (cur.toList.take 0 ++ news ++ cur.toList.drop news.length).toArray, by rcases hs.kind with ⟨e', hk⟩ | hk <;> simp [Builtin.append_, run_underlying ht, run_underlying hk, sizeOf, typeInfo, hi, hs.len, hroom, hs.cells, Addr.add_lit, hst], ⟨⟨?_, .inr ⟨g, cap, _, by rw [List.length_drop], Nat.zero_le _, setRow_heap w g cur _ e _ hb, by rw [List.length_drop]; exact hroom, r2, ?_, ?_⟩⟩, fun c hc => h3 c (List.mem_of_mem_drop hc)⟩,
      ⟨⟨rfl, rfl, rfl, by simp [World.setRow], fun k hk hne => setRow_other w g k _ (fun e => hne (by simp [Value.ownBlock, e]))⟩, .inl rfl⟩, _, setRow_heap w g cur _ e _ hb, ?_, r1⟩
    · rw [← hN, hnl, List.length_drop]
    · simp only [List.size_toArray, List.length_append, List.length_take, List.length_drop, Array.length_toList]; omega
    · rw [List.length_drop]
      show List.take _ (List.take 0 cur.toList ++ news ++ _) = _
      rw [List.take_zero, List.nil_append]
      rw [← hN]
      show List.take _ (news ++ _) = _
      rw [← hnl]
      exact List.take_left
    · simp only [List.size_toArray, List.length_append, List.length_take, List.length_drop, Array.length_toList]; omega
theorem step_del {P : Program} {ops : Array Oper} {o : Oper} {a : Act} {w : World} {K : Act → World → Prop} {Q : Exit → Act → World → Prop} {E : Prop} (hgd : o.guard = none) (sl xo : Operand) (t : TypeId)
    (ho : o.op = .call { callee := .builtin .append, args := #[sl, xo], argTypes := #[t, t] }) (e : TypeId) (sz : Nat) (ht : P.underlying t = some (.slice e)) (hinfo : (P.info? e).map (fun i => i.size) = some sz)
    (g cap n j c : Nat) (cs : List (List Value)) (hown : w.ownL e sz (.slice (some ⟨g, 0, none⟩) n cap) cs) (hj : j ≤ n) (h1 : ∀ c ∈ cs, ∀ u ∈ c, u.oneCell' = true) (ad : Addr) (had : j < n → ad = ⟨g, j * sz, none⟩)
    (hv : a.eval sl = .slice (some ⟨g, 0, none⟩) 0 cap) (hx : a.eval xo = .slice (some ad) (n - j) c)
    (h : ∀ w', w'.ownL e sz (.slice (some ⟨g, 0, none⟩) (n - j) cap) (cs.drop j) → Grew w w' (.slice (some ⟨g, 0, none⟩) n cap) (.slice (some ⟨g, 0, none⟩) (n - j) cap) → K (a.put o.dst (.slice (some ⟨g, 0, none⟩) (n - j) cap)) w') :
    if Region.wanted o (yielded ops a.tmps) = true then Oper.wp P o a w K Q else E := by
  have hw : Region.wanted o (yielded ops a.tmps) = true := by simp [Region.wanted, hgd]
  rw [if_pos hw]
  cases hi : P.info? e with
  | none => rw [hi] at hinfo; cases hinfo
  | some i =>
    have hsz : i.size = sz := by rw [hi] at hinfo; simpa using hinfo
    subst hsz
    obtain ⟨w', hr, h2, h3, -⟩ := run_del_append (P := P) w t o.type e i ht hi g cap n j c cs hown hj h1 ad had
    unfold Oper.wp execOp
    simp only [ho, resolve, invoke, builtin, Sem.run_bind, Sem.run_pure, Result.andThen_ok, List.map_toArray, List.map_cons, List.map_nil, hv, hx, hr]
    exact h _ h2 h3
/-- 'clear' of what lies behind what is owned. -/
theorem run_clear_tail {P : Program} (w : World) (t ty e : TypeId) (z : Array Value) (sz : Nat) (ht : P.underlying t = some (.slice e)) (hv : ∀ w, (zeroValue e).run P w = .ok (.agg z) w) (hzs : z.size = sz) (h1 : ∀ u ∈ z.toList, u.oneCell' = true) (g cap m j c : Nat) (cs : List (List Value)) (hown : w.ownL e sz (.slice (some ⟨g, 0, none⟩) m cap) cs) (hj : m + j ≤ cap) (hj0 : 0 < j) :
    ∃ w', (Builtin.clear_ #[t] ty #[.slice (some ⟨g, m * sz, none⟩) j c]).run P w = .ok (.tuple #[]) w' ∧ w'.ownL e sz (.slice (some ⟨g, 0, none⟩) m cap) cs ∧ Grew w w' (.slice (some ⟨g, 0, none⟩) m cap) (.slice (some ⟨g, 0, none⟩) m cap) := by
  obtain ⟨h2, h3⟩ := hown
  rcases h2.2 with ⟨hv', _⟩ | ⟨g', cap', cur, hv', _, hb, r1, r2, r3, r4⟩
  · cases hv'
  · injection hv' with hv1 hv2 hv3
    injection hv1 with hv1
    injection hv1 with hv1
    subst hv1 hv3
    have hm : m = cs.length := hv2
    subst hm
    have hzl : (Builtin.zeroCells z j).toList.length = j * sz := by rw [Array.length_toList, zeroCells_size, hzs]
    have hle : (cs.length + j) * sz ≤ cap * sz := Nat.mul_le_mul_right _ hj
    rw [Nat.add_mul] at hle
    have hone : ∀ u ∈ (Builtin.zeroCells z j).toList, u.oneCell' = true := by
      intro u hu
      simp only [Builtin.zeroCells, Array.toList_map, List.mem_map, Array.toList_range, List.mem_range] at hu
      obtain ⟨k, hk, rfl⟩ := hu
      have hz0 : 0 < z.size := by
        rcases Nat.eq_zero_or_pos z.size with h | h
        · rw [h] at hk; simp at hk
        · exact h
      have hlt : k % z.size < z.size := Nat.mod_lt _ hz0
      rw [getElem!_pos z _ hlt]
      exact h1 _ (by simp)
    have hst := run_storeCells_at P g (cs.length * sz) e (Builtin.zeroCells z j).toList 0 cur w hb (by omega) hone
    simp only [Nat.add_zero] at hst
    obtain ⟨j', rfl⟩ : ∃ j', j = j' + 1 := ⟨j - 1, by omega⟩
    refine ⟨w.setRow g (cur.toList.take (cs.length * sz) ++ (Builtin.zeroCells z (j' + 1)).toList ++ cur.toList.drop (cs.length * sz + (Builtin.zeroCells z (j' + 1)).toList.length)).toArray, by simp [Builtin.clear_, run_underlying ht, hv, Value.cells, hst], ⟨⟨h2.1, .inr ⟨g, cap, _, rfl, Nat.zero_le _, setRow_heap w g cur _ e _ hb, r1, r2, ?_, ?_⟩⟩, h3⟩,
      ⟨⟨rfl, rfl, rfl, by simp [World.setRow], fun k hk hne => setRow_other w g k _ (fun e => hne (by simp [Value.ownBlock, e]))⟩, .inl rfl⟩⟩
    · simp only [List.size_toArray, List.length_append, List.length_take, List.length_drop, Array.length_toList]
      rw [Array.length_toList] at hzl
      omega
    · have hcl : cur.toList.length = cap * sz := by rw [Array.length_toList]; exact r3
      show List.take _ (List.take _ cur.toList ++ _ ++ _) = _
      rw [List.append_assoc, List.take_append_of_le_length (by rw [List.length_take]; omega), List.take_take, Nat.min_self]
      exact r4
theorem wpL_clear {P : Program} {w : World} {ops : Array Oper} {rest : List Oper} {o : Oper} {a : Act} {Q : Exit → Act → World → Prop} (hgd : o.guard = none) (x : Operand) (t : TypeId) (ho : o.op = .call { callee := .builtin .clear, args := #[x], argTypes := #[t] })
    (e : TypeId) (z : Array Value) (sz : Nat) (ht : P.underlying t = some (.slice e)) (hv : ∀ w, (zeroValue e).run P w = .ok (.agg z) w) (hzs : z.size = sz) (h1 : ∀ u ∈ z.toList, u.oneCell' = true) (g cap m j c : Nat) (cs : List (List Value)) (hown : w.ownL e sz (.slice (some ⟨g, 0, none⟩) m cap) cs) (hj : m + j ≤ cap) (hj0 : 0 < j)
    (hx : a.eval x = .slice (some ⟨g, m * sz, none⟩) j c)
    (h : ∀ w', w'.ownL e sz (.slice (some ⟨g, 0, none⟩) m cap) cs → Grew w w' (.slice (some ⟨g, 0, none⟩) m cap) (.slice (some ⟨g, 0, none⟩) m cap) → wpList P ops Q rest (a.put o.dst (.tuple #[])) w') : wpList P ops Q (o :: rest) a w := by
  refine wpList_plain hgd fun _ hK => ?_
  obtain ⟨w', hr, h2, h3⟩ := run_clear_tail (P := P) w t o.type e z sz ht hv hzs h1 g cap m j c cs hown hj hj0
  unfold Oper.wp execOp
  simp only [ho, resolve, invoke, builtin, Sem.run_bind, Sem.run_pure, Result.andThen_ok, List.map_toArray, List.map_cons, List.map_nil, hx, hr]
  exact hK _ _ (h _ h2 h3)
end Go
namespace Go.Proofs.Ytcbbnmodjnnbeaa
open Go.RowKit
theorem Ver.one (v : Ver) : ∀ u ∈ v.cells, u.oneCell' = true := by
  intro u hu
  simp only [Ver.cells, List.mem_cons, List.not_mem_nil, or_false] at hu
  rcases hu with rfl | rfl | rfl <;> rfl
theorem vers_one (vs : List Ver) : ∀ c ∈ vs.map Ver.cells, ∀ u ∈ c, u.oneCell' = true := by
  intro c hc
  obtain ⟨v, _, rfl⟩ := List.mem_map.1 hc
  exact v.one
theorem sizeVer : (Try.prog.info? 158).map (fun i => i.size) = some 3 := by kernel_rfl
set_option maxRecDepth 100000 in
theorem deleteHead (w : World) (g cap j : Nat) (vs : List Ver) (hn : vs.length ≤ 1000000) (hj : j ≤ vs.length) (hcap : vs.length ≤ cap) (hcap2 : cap ≤ maxLen) (ho : w.ownL 158 3 (.slice (some ⟨g, 0, none⟩) vs.length cap) (vs.map Ver.cells)) :
    Calls Try.prog 186 #[.slice (some ⟨g, 0, none⟩) vs.length cap, .int .i64 0, .int .i64 j] w fun e w' => e = .returned (.slice (some ⟨g, 0, none⟩) (vs.length - j) cap) ∧ w'.ownL 158 3 (.slice (some ⟨g, 0, none⟩) (vs.length - j) cap) ((vs.drop j).map Ver.cells) ∧ Grew w w' (.slice (some ⟨g, 0, none⟩) vs.length cap) (.slice (some ⟨g, 0, none⟩) (vs.length - j) cap) := by
  have hji : (j : Int) ≤ vs.length := by omega
  have hci : (vs.length : Int) ≤ cap := by omega
  by_cases h0 : j = 0
  · subst h0
    go_enter Try.func186, Try.ntmps186
    go_wp2_with fail
    go_ret
    exact ⟨rfl, by simpa using ho, Grew.refl _ _⟩
  · obtain ⟨ad, had1, had2⟩ : ∃ ad : Addr, ((if cap = j then (some ⟨g, 0, none⟩ : Option Addr) else some ⟨g, j * 3, none⟩) = some ad) ∧ (j < vs.length → ad = ⟨g, j * 3, none⟩) := by
      by_cases hc : cap = j
      · exact ⟨⟨g, 0, none⟩, by rw [if_pos hc], fun h => by omega⟩
      · exact ⟨⟨g, j * 3, none⟩, by rw [if_neg hc], fun _ => rfl⟩
    have HD : Hid (j < vs.length → ad = ⟨g, j * 3, none⟩) := had2
    have HO : Hid (w.ownL 158 3 (.slice (some ⟨g, 0, none⟩) vs.length cap) (vs.map Ver.cells)) := ho
    have HJ : Hid (j ≤ vs.length) := hj
    have hle : vs.length - j + (vs.length - (vs.length - j)) ≤ cap := by omega
    have hpos : 0 < vs.length - (vs.length - j) := by omega
    have hzo : ∀ u ∈ (#[.int .i64 0, .string ⟨#[]⟩, .bool false] : Array Value).toList, u.oneCell' = true := by
      intro u hu
      simp only [List.mem_cons, List.not_mem_nil, or_false] at hu
      rcases hu with rfl | rfl | rfl <;> rfl
    have hjp : (0 : Int) < j := by omega
    clear had2 ho
    have hjn : (0 == (j : Int)) = false := by rw [beq_eq_false_iff_ne]; omega
    go_enter Try.func186, Try.ntmps186
    go_wp2_with fail
    go_region_law (refine step_del rfl (.tmp 22) (.tmp 25) 160 rfl 158 3 Try.underlying160 sizeVer g cap vs.length j (cap - j) _ HO.out.drew HJ.out (vers_one vs) ad HD.out (by simp [Act.eval, Act.put]) (by simp [Act.eval, Act.put]) ?_; intro w1 ho1 hg1)
    go_wp2_with (refine wpL_clear rfl _ _ rfl 158 #[.int .i64 0, .string ⟨#[]⟩, .bool false] 3 Try.underlying160 (fun w => by kernel_rfl) rfl hzo g cap (vs.length - j) (vs.length - (vs.length - j)) (cap - (vs.length - j)) _ ho1 hle hpos rfl ?_; intro w2 ho2 hg2)
    go_ret
    exact ⟨rfl, by rw [List.map_drop]; exact ho2, ((⟨⟨rfl, rfl, rfl, Nat.le_refl _, fun _ _ _ => rfl⟩, .inl rfl⟩ : Grew w w.drew (.slice (some ⟨g, 0, none⟩) vs.length cap) (.slice (some ⟨g, 0, none⟩) vs.length cap)).trans hg1).trans hg2⟩

/-- How many versions from drops at a floor. -/
def dropN (vs : List Ver) (f : Int) : Nat := if 0 < upToN vs f ∧ (vs[upToN vs f - 1]?.getD Ver.none).gone = false then upToN vs f - 1 else upToN vs f
theorem dropN_le (vs : List Ver) (f : Int) : dropN vs f ≤ vs.length := by
  have := upToN_le vs f
  unfold dropN; split <;> omega
theorem own_parts {w : World} {e : TypeId} {sz n cap g : Nat} {cs : List (List Value)} (h : w.ownL e sz (.slice (some ⟨g, 0, none⟩) n cap) cs) : cs.length ≤ cap ∧ cap ≤ maxLen := by
  rcases h.1.2 with ⟨hv, _⟩ | ⟨g', cap', cur, hv, _, hb, r1, r2, r3, r4⟩
  · cases hv
  · injection hv with _ _ hv3
    subst hv3
    exact ⟨r1, r2⟩
set_option maxRecDepth 100000 in
theorem histFrom (w : World) (g cap : Nat) (vs : List Ver) (f : Int) (hn : vs.length ≤ 1000000) (hs : Asc vs) (ho : w.ownL 158 3 (.slice (some ⟨g, 0, none⟩) vs.length cap) (vs.map Ver.cells)) :
    Calls Try.prog 179 #[.slice (some ⟨g, 0, none⟩) vs.length cap, .int .i64 f] w fun e w' => e = .returned (.slice (some ⟨g, 0, none⟩) (vs.length - dropN vs f) cap) ∧ w'.ownL 158 3 (.slice (some ⟨g, 0, none⟩) (vs.length - dropN vs f) cap) ((vs.drop (dropN vs f)).map Ver.cells) ∧ Grew w w' (.slice (some ⟨g, 0, none⟩) vs.length cap) (.slice (some ⟨g, 0, none⟩) (vs.length - dropN vs f) cap) := by
  have hcc := own_parts ho
  rw [List.length_map] at hcc
  have HC : Hid (vs.length ≤ cap ∧ cap ≤ maxLen) := hcc
  have HN : Hid (vs.length ≤ 1000000) := hn
  have HO : Hid (w.ownL 158 3 (.slice (some ⟨g, 0, none⟩) vs.length cap) (vs.map Ver.cells)) := ho
  have hle := upToN_le vs f
  have HD : Hid (dropN vs f = if 0 < upToN vs f ∧ (vs[upToN vs f - 1]?.getD Ver.none).gone = false then upToN vs f - 1 else upToN vs f) := rfl
  have HDl : Hid (dropN vs f ≤ vs.length) := dropN_le vs f
  have hlt : g < w.heap.size := ho.lt rfl
  have hvl : vs.length ≤ 1000000000000 := by omega
  clear hcc hn ho
  go_enter Try.func179, Try.ntmps179
  go_wp2_with fail
  refine (histUpTo w _ cap vs f hvl HO.out.reads hs).mono ?_
  rintro e w1 ⟨rfl, hb⟩
  have HO1 : Hid (w1.ownL 158 3 (.slice (some ⟨g, 0, none⟩) vs.length cap) (vs.map Ver.cells)) := HO.out.keep fun k hk => hb.block k (HO.out.lt hk)
  have hG1 : Hid (Grew w w1 (.slice (some ⟨g, 0, none⟩) vs.length cap) (.slice (some ⟨g, 0, none⟩) vs.length cap)) := ⟨⟨hb.os, hb.tape, hb.output, hb.size, fun k hk _ => hb.block k hk⟩, .inl rfl⟩
  clear hb
  generalize hk : upToN vs f = k at *
  clear hk
  rcases Nat.eq_zero_or_pos k with h0 | h0
  · subst h0
    have HD0 : Hid (dropN vs f = 0) := by show _ = _; rw [HD.out, if_neg (by omega)]
    go_wp2_with fail
    refine (deleteHead w1 g cap 0 vs HN.out (Nat.zero_le _) HC.out.1 HC.out.2 HO1.out).mono ?_
    rintro e w2 ⟨rfl, ho2, hg2⟩
    go_wp2_with fail
    go_ret
    rw [HD0.out]
    exact ⟨rfl, ho2, hG1.out.trans hg2⟩
  · obtain ⟨m, rfl⟩ : ∃ m, k = m + 1 := ⟨k - 1, by omega⟩
    have hml : m < vs.length := by omega
    have hmi : (m : Int) < vs.length := by omega
    obtain ⟨g', o, he, hg', hv⟩ := ver_at HO1.out.reads hml
    injection he with he
    injection he with he1 he2
    subst he1 he2
    obtain ⟨c0, c1, c2⟩ := Ver.off hv
    rw [Nat.zero_add] at c0 c1 c2
    have HDm : Hid (dropN vs f = if vs[m].gone = false then m else m + 1) := by
      show _ = _
      rw [HD.out]
      simp only [Nat.add_sub_cancel, List.getElem?_eq_getElem hml, Option.getD_some, Nat.zero_lt_succ, true_and]
    generalize vs[m] = v at c0 c1 c2 HDm
    have hpos : (0 : Int) < (m : Int) + 1 := by omega
    clear hv h0
    cases hgone : v.gone
    · rw [hgone] at c2
      have HD0 : Hid (dropN vs f = m) := by show _ = _; rw [HDm.out, if_pos hgone]
      clear hgone
      go_wp2_with fail
      refine (deleteHead w1 g cap m vs HN.out (Nat.le_of_lt hml) HC.out.1 HC.out.2 HO1.out).mono ?_
      rintro e w2 ⟨rfl, ho2, hg2⟩
      go_wp2_with fail
      go_ret
      rw [HD0.out]
      exact ⟨rfl, ho2, hG1.out.trans hg2⟩
    · rw [hgone] at c2
      have HD0 : Hid (dropN vs f = m + 1) := by show _ = _; rw [HDm.out, if_neg (by rw [hgone]; exact Bool.noConfusion)]
      clear hgone
      have hcall := deleteHead w1 g cap (m + 1) vs HN.out hle HC.out.1 HC.out.2 HO1.out
      rw [show (((m + 1 : Nat)) : Int) = (m : Int) + 1 by omega] at hcall
      go_wp2_with fail
      refine hcall.mono ?_
      rintro e w2 ⟨rfl, ho2, hg2⟩
      go_wp2_with fail
      go_ret
      rw [HD0.out]
      exact ⟨rfl, ho2, hG1.out.trans hg2⟩
end Go.Proofs.Ytcbbnmodjnnbeaa
/- A store at a key that is there into the map that is ranged over. -/
set_option linter.unusedSimpArgs false
set_option linter.unusedVariables false
namespace Go
open Go.ChangeMaps Go.MapKept Go.WideShapes
open Go.WideElems (Fit rd rg pl rd_key rd_val rg_of rd_mk other_key)
open Go.Maps (Keyed)
section
variable {H : Type} {P : Program} {k : TypeId} {R : Value → Option (DataW H × List MemPlace)} {w : World} {b r n : Nat} {D : DataW H} {left : Lit → Bool} {cnt : Nat}
theorem leftOf_size (es : Array MapEntry) (seen : Array Nat) : (leftOf es seen).size = ((es.toList.map (·.born)).filter fun x => !seen.contains x).length := by
  unfold leftOf
  rw [← Array.length_toList, Array.toList_filter, List.filter_map, List.length_map]
  rfl
theorem World.ranges.store {t e : TypeId} (h : w.ranges P k R b r n D left cnt) (K : Keyed P k) (ht : P.underlying t = some (.map k e)) {key val : Value} {kl : Lit} {d : DataW H} {ps : List MemPlace} (hkey : keyOf P k key = some kl) (hv : R val = some (d, ps)) (hin : Maps.has D kl = true) :
    ∃ w', (Instr.mapUpdate t (.map (some b)) key val).run P w = .ok () w' ∧ w'.ranges P k R b r n (D.put kl d) left cnt ∧ w.grownBy w' (some b) := by
  have hne := h.ne
  obtain ⟨es, clock, since, seen, c0, hb, F, hs, rfl, hr, hold, rfl, hl1, hl2, hsc, hsk⟩ := h
  rcases K.find w hkey es.toList F.keys with ⟨h1, h2⟩ | ⟨j, e0, h1, h2, h3⟩
  · exfalso
    obtain ⟨p, hp, hpk⟩ := List.any_eq_true.1 (show (((es.toList.map (rg P k R)).foldr DataW.insert []).any fun p => p.1.sameKey kl) = true from hin)
    obtain ⟨x, hx, rfl⟩ := List.mem_map.1 (mem_sorted.1 hp)
    obtain ⟨y, hy⟩ := F.reads x hx
    rw [rg_of hy] at hpk
    have e1 := WideAt.sameKey_eq hpk
    exact h2 x hx (K.inj (e1 ▸ rd_key hy) hkey)
  · have hj : es[j]? = some e0 := by simpa using h2
    have hjl : j < es.toList.length := (List.getElem?_eq_some_iff.1 h2).1
    have hkeyf : ∀ e', es[j]? = some e' → ({ e' with key := key, val := val } : MapEntry).key = e'.key := fun e' he' => by rw [hj] at he'; cases he'; exact h3.symm
    have hlist : (es.modify j (fun e' => { e' with key := key, val := val })).toList = es.toList.set j { e0 with key := key, val := val } := by rw [Array.toList_modify, modify_eq_set _ _ _ _ h2]
    have who : ∀ x ∈ es.toList.set j { e0 with key := key, val := val }, x = { e0 with key := key, val := val } ∨ (x ∈ es.toList ∧ x.key ≠ key) := by
      intro x hx
      obtain ⟨i, hi, ex⟩ := List.getElem_of_mem hx
      rw [List.getElem_set] at ex
      split at ex
      · exact Or.inl ex.symm
      · rename_i hne
        have hi' : i < es.toList.length := by simpa using hi
        refine Or.inr ⟨ex ▸ List.getElem_mem hi', ?_⟩
        rw [← h3]
        exact other_key F h2 (by rw [List.getElem?_eq_getElem hi', ex]) (fun e1 => hne e1.symm)
    have hborn : (es.modify j (fun e' => { e' with key := key, val := val })).toList.map (·.born) = es.toList.map (·.born) := by
      rw [hlist, List.map_set]
      apply List.ext_getElem?
      intro i
      rw [List.getElem?_set]
      by_cases hij : j = i
      · subst hij
        rw [if_pos rfl, if_pos (by simpa using hjl), List.getElem?_map, h2]; rfl
      · rw [if_neg hij]
    have he0 : e0 ∈ es.toList := List.mem_of_getElem? h2
    obtain ⟨y0, hy0⟩ := F.reads e0 he0
    have hkl0 : (rg P k R e0).1 = kl := by
      rw [rg_of hy0]
      have := rd_key hy0
      rw [h3, hkey] at this
      exact (Option.some.inj this).symm
    have hnew : (rg P k R { e0 with key := key, val := val }).1 = kl := by rw [rg_of (rd_mk hkey hv)]
    have F' : Fit P k R (es.modify j (fun e' => { e' with key := key, val := val })) clock := by
      refine ⟨by simpa using F.size, stamped_modify F.stamped _ _ (fun _ _ => rfl) (fun e' _ he' => hkeyf e' he'), fun x hx => ?_⟩
      rw [hlist] at hx
      rcases who x hx with rfl | ⟨hx', hne⟩
      · exact ⟨_, rd_mk hkey hv⟩
      · exact F.reads x hx'
    have hput : ((es.modify j (fun e' => { e' with key := key, val := val })).toList.map (rg P k R)).foldr DataW.insert [] = putKey kl d ((es.toList.map (rg P k R)).foldr DataW.insert []) := by
      refine Maps.sorted_put K.one ⟨key, hkey⟩ (Maps.fit_keys F) (Maps.fit_apart K F) ?_
      rw [Maps.filter_one K F hkey h2 h3, hlist, List.map_set, rg_of (rd_mk hkey hv)]
      exact set_perm _ _ (by simpa using hjl) _
    refine ⟨setBlock w b (.map (es.modify j (fun e' => { e' with key := key, val := val })) clock), ?_, ⟨_, clock, since, seen, c0, heap_setBlock_same hb _, F', by simpa using hs, by rw [DataW.put_eq, hput], (heap_setBlock_other hb _ hne).trans hr, fun x hx => ?_, ?_, fun x hx => ?_, fun x0 hx0 => ?_, hsc, hsk⟩, ⟨rfl, rfl, rfl, by simp [setBlock], fun i _ hi => heap_setBlock_other hb _ (fun e => hi (by rw [e]))⟩⟩
    · simp [Instr.mapUpdate, run_underlying ht, MapKept.run_getObj_map hb, K.check w false hkey, h1, hj, h3, K.stays w hkey, MapKept.run_setObj_map _ hb, Result.andThen, setBlock]
    · rw [hlist] at hx
      rcases who x hx with rfl | ⟨hx', _⟩
      · exact hold e0 he0
      · exact hold x hx'
    · rw [leftOf_size, leftOf_size, hborn]
    · rw [hlist] at hx
      rcases who x hx with rfl | ⟨hx', _⟩
      · rw [hnew, ← hkl0]; exact hl1 e0 he0
      · exact hl1 x hx'
    · obtain ⟨x, hx, rfl⟩ := hl2 x0 hx0
      rw [hlist]
      by_cases hxk : x.key = key
      · refine ⟨{ e0 with key := key, val := val }, List.mem_iff_getElem?.2 ⟨j, by rw [List.getElem?_set, if_pos rfl, if_pos hjl]⟩, ?_⟩
        rw [hnew]
        obtain ⟨y, hy⟩ := F.reads x hx
        rw [rg_of hy]
        have := rd_key hy
        rw [hxk, hkey] at this
        exact Option.some.inj this
      · obtain ⟨i, hi⟩ := List.mem_iff_getElem?.1 hx
        refine ⟨x, List.mem_iff_getElem?.2 ⟨i, ?_⟩, rfl⟩
        rw [List.getElem?_set, if_neg (fun e1 => ?_)]
        · exact hi
        · subst e1
          rw [h2] at hi
          cases hi
          exact hxk h3
theorem wpList_mapUpdate_ranges {ops : Array Oper} {rest : List Oper} {o : Oper} {a : Act} {Q : Exit → Act → World → Prop} (w : World) (hg : o.guard = none) (m x v : Operand) (t : TypeId) (hop : o.op = Op.mapUpdate t m x v)
    (k e : TypeId) (K : Keyed P k) (ht : P.underlying t = some (.map k e)) (R : Value → Option (DataW H × List MemPlace)) (b r n : Nat) (D : DataW H) (left : Lit → Bool) (cnt : Nat)
    (hm : a.eval m = .map (some b)) (h : w.ranges P k R b r n D left cnt) (key val : Value) (kl : Lit) (hx : a.eval x = key) (hv : a.eval v = val) (hkey : keyOf P k key = some kl)
    (d : DataW H) (ps : List MemPlace) (hval : R val = some (d, ps)) (hin : Maps.has D kl = true)
    (hK : ∀ w', w'.ranges P k R b r n (D.put kl d) left cnt → w.grownBy w' (some b) → wpList P ops Q rest (a.put o.dst undef) w') :
    wpList P ops Q (o :: rest) a w := by
  refine wpList_plain hg fun K' hK' => ?_
  obtain ⟨w', hrun, r1, r2⟩ := h.store K ht hkey hval hin
  unfold Oper.wp
  simp [execOp, hop, hm, hx, hv, hrun, Result.andThen]
  exact hK' _ _ (hK w' r1 r2)
end
end Go
/- The marks that the law's book writes: their cells; that a mark is not another one than itself. -/
set_option linter.unusedSimpArgs false
set_option linter.unusedVariables false
namespace Go.Proofs.Ytcbbnmodjnnbeaa
open Go.RowKit

def mkRes (k : Nat) : List Value := [.bool false, .int .i64 (-9 - (k : Int)), .bool false]
theorem mkRes_len (k : Nat) : (mkRes k).length = 3 := rfl
theorem mkRes_at {w : World} {b k : Nat} {t : TypeId} {m : Nat × Nat} (h : w.heap[b]? = some (.cells (mkRes k).toArray t m)) :
    w.cell? ⟨b, 0, none⟩ = some (.bool false) ∧ w.cell? ⟨b, 1, none⟩ = some (.int .i64 (-9 - (k : Int))) ∧ w.cell? ⟨b, 2, none⟩ = some (.bool false) := by
  refine ⟨?_, ?_, ?_⟩ <;> (simp only [World.cell?, h]; rfl)
theorem mkRes_off {w : World} {b p k : Nat} (h : w.rangeAt b p (mkRes k)) :
    w.cell? ⟨b, p, none⟩ = some (.bool false) ∧ w.cell? ⟨b, p + 1, none⟩ = some (.int .i64 (-9 - (k : Int))) ∧ w.cell? ⟨b, p + 2, none⟩ = some (.bool false) :=
  ⟨h 0 _ rfl, h 1 _ rfl, h 2 _ rfl⟩
theorem mkRes_one (k : Nat) : ∀ u ∈ mkRes k, u.oneCell' = true := by
  intro u hu
  simp only [mkRes, List.mem_cons, List.not_mem_nil, or_false] at hu
  rcases hu with rfl | rfl | rfl <;> rfl
theorem mkRes_neq (k : Nat) (w : World) : (binOp .neq 72 (.agg #[.bool false, .int .i64 (-9 - (k : Int)), .bool false]) (.agg #[.bool false, .int .i64 (-9 - (k : Int)), .bool false])).run Try.prog w = .ok (.bool false) w := by
  have h := neq_res ⟨false, -9 - (k : Int), false⟩ ⟨false, -9 - (k : Int), false⟩ w
  rw [(Res.same_iff _ _).2 rfl] at h
  exact h

def mkFnd (k : Nat) : List Value := [.string ⟨#[]⟩, .string ⟨#[]⟩, .int .i64 (-9 - (k : Int))]
theorem mkFnd_len (k : Nat) : (mkFnd k).length = 3 := rfl
theorem mkFnd_at {w : World} {b k : Nat} {t : TypeId} {m : Nat × Nat} (h : w.heap[b]? = some (.cells (mkFnd k).toArray t m)) :
    w.cell? ⟨b, 0, none⟩ = some (.string ⟨#[]⟩) ∧ w.cell? ⟨b, 1, none⟩ = some (.string ⟨#[]⟩) ∧ w.cell? ⟨b, 2, none⟩ = some (.int .i64 (-9 - (k : Int))) := by
  refine ⟨?_, ?_, ?_⟩ <;> (simp only [World.cell?, h]; rfl)
theorem mkFnd_off {w : World} {b p k : Nat} (h : w.rangeAt b p (mkFnd k)) :
    w.cell? ⟨b, p, none⟩ = some (.string ⟨#[]⟩) ∧ w.cell? ⟨b, p + 1, none⟩ = some (.string ⟨#[]⟩) ∧ w.cell? ⟨b, p + 2, none⟩ = some (.int .i64 (-9 - (k : Int))) :=
  ⟨h 0 _ rfl, h 1 _ rfl, h 2 _ rfl⟩
theorem mkFnd_one (k : Nat) : ∀ u ∈ mkFnd k, u.oneCell' = true := by
  intro u hu
  simp only [mkFnd, List.mem_cons, List.not_mem_nil, or_false] at hu
  rcases hu with rfl | rfl | rfl <;> rfl
theorem mkFnd_neq (k : Nat) (w : World) : (binOp .neq 131 (.agg #[.string ⟨#[]⟩, .string ⟨#[]⟩, .int .i64 (-9 - (k : Int))]) (.agg #[.string ⟨#[]⟩, .string ⟨#[]⟩, .int .i64 (-9 - (k : Int))])).run Try.prog w = .ok (.bool false) w := by
  have h := neq_fnd ⟨⟨#[]⟩, ⟨#[]⟩, -9 - (k : Int)⟩ ⟨⟨#[]⟩, ⟨#[]⟩, -9 - (k : Int)⟩ w
  rw [(Fnd.same_iff _ _).2 rfl] at h
  exact h

def mkEty (k : Nat) : List Value := [.int .i64 (-9 - (k : Int)), .int .i64 0, .string ⟨#[]⟩, .string ⟨#[]⟩, .string ⟨#[]⟩, .int .i64 0, .int .i64 0, .int .i64 0]
theorem mkEty_len (k : Nat) : (mkEty k).length = 8 := rfl
theorem mkEty_at {w : World} {b k : Nat} {t : TypeId} {m : Nat × Nat} (h : w.heap[b]? = some (.cells (mkEty k).toArray t m)) :
    w.cell? ⟨b, 0, none⟩ = some (.int .i64 (-9 - (k : Int))) ∧ w.cell? ⟨b, 1, none⟩ = some (.int .i64 0) ∧ w.cell? ⟨b, 2, none⟩ = some (.string ⟨#[]⟩) ∧ w.cell? ⟨b, 3, none⟩ = some (.string ⟨#[]⟩) ∧ w.cell? ⟨b, 4, none⟩ = some (.string ⟨#[]⟩) ∧ w.cell? ⟨b, 5, none⟩ = some (.int .i64 0) ∧ w.cell? ⟨b, 6, none⟩ = some (.int .i64 0) ∧ w.cell? ⟨b, 7, none⟩ = some (.int .i64 0) := by
  refine ⟨?_, ?_, ?_, ?_, ?_, ?_, ?_, ?_⟩ <;> (simp only [World.cell?, h]; rfl)
theorem mkEty_off {w : World} {b p k : Nat} (h : w.rangeAt b p (mkEty k)) :
    w.cell? ⟨b, p, none⟩ = some (.int .i64 (-9 - (k : Int))) ∧ w.cell? ⟨b, p + 1, none⟩ = some (.int .i64 0) ∧ w.cell? ⟨b, p + 2, none⟩ = some (.string ⟨#[]⟩) ∧ w.cell? ⟨b, p + 3, none⟩ = some (.string ⟨#[]⟩) ∧ w.cell? ⟨b, p + 4, none⟩ = some (.string ⟨#[]⟩) ∧ w.cell? ⟨b, p + 5, none⟩ = some (.int .i64 0) ∧ w.cell? ⟨b, p + 6, none⟩ = some (.int .i64 0) ∧ w.cell? ⟨b, p + 7, none⟩ = some (.int .i64 0) :=
  ⟨h 0 _ rfl, h 1 _ rfl, h 2 _ rfl, h 3 _ rfl, h 4 _ rfl, h 5 _ rfl, h 6 _ rfl, h 7 _ rfl⟩
theorem mkEty_one (k : Nat) : ∀ u ∈ mkEty k, u.oneCell' = true := by
  intro u hu
  simp only [mkEty, List.mem_cons, List.not_mem_nil, or_false] at hu
  rcases hu with rfl | rfl | rfl | rfl | rfl | rfl | rfl | rfl <;> rfl
theorem mkEty_neq (k : Nat) (w : World) : (binOp .neq 135 (.agg #[.int .i64 (-9 - (k : Int)), .int .i64 0, .string ⟨#[]⟩, .string ⟨#[]⟩, .string ⟨#[]⟩, .int .i64 0, .int .i64 0, .int .i64 0]) (.agg #[.int .i64 (-9 - (k : Int)), .int .i64 0, .string ⟨#[]⟩, .string ⟨#[]⟩, .string ⟨#[]⟩, .int .i64 0, .int .i64 0, .int .i64 0])).run Try.prog w = .ok (.bool false) w := by
  have h := neq_entry ⟨-9 - (k : Int), 0, ⟨#[]⟩, ⟨#[]⟩, ⟨#[]⟩, 0, 0, 0⟩ ⟨-9 - (k : Int), 0, ⟨#[]⟩, ⟨#[]⟩, ⟨#[]⟩, 0, 0, 0⟩ w
  rw [(Entry.same_iff _ _).2 rfl] at h
  exact h

def mkRec (k : Nat) : List Value := [.int .i64 (-9 - (k : Int)), .int .i64 0, .int .i64 0, .int .i64 0, .int .i64 0, .int .i64 0, .int .i64 0, .string ⟨#[]⟩, .string ⟨#[]⟩, .string ⟨#[]⟩, .int .i64 0, .int .i64 0, .int .i64 0, .string ⟨#[]⟩]
theorem mkRec_len (k : Nat) : (mkRec k).length = 14 := rfl
theorem mkRec_at {w : World} {b k : Nat} {t : TypeId} {m : Nat × Nat} (h : w.heap[b]? = some (.cells (mkRec k).toArray t m)) :
    w.cell? ⟨b, 0, none⟩ = some (.int .i64 (-9 - (k : Int))) ∧ w.cell? ⟨b, 1, none⟩ = some (.int .i64 0) ∧ w.cell? ⟨b, 2, none⟩ = some (.int .i64 0) ∧ w.cell? ⟨b, 3, none⟩ = some (.int .i64 0) ∧ w.cell? ⟨b, 4, none⟩ = some (.int .i64 0) ∧ w.cell? ⟨b, 5, none⟩ = some (.int .i64 0) ∧ w.cell? ⟨b, 6, none⟩ = some (.int .i64 0) ∧ w.cell? ⟨b, 7, none⟩ = some (.string ⟨#[]⟩) ∧ w.cell? ⟨b, 8, none⟩ = some (.string ⟨#[]⟩) ∧ w.cell? ⟨b, 9, none⟩ = some (.string ⟨#[]⟩) ∧ w.cell? ⟨b, 10, none⟩ = some (.int .i64 0) ∧ w.cell? ⟨b, 11, none⟩ = some (.int .i64 0) ∧ w.cell? ⟨b, 12, none⟩ = some (.int .i64 0) ∧ w.cell? ⟨b, 13, none⟩ = some (.string ⟨#[]⟩) := by
  refine ⟨?_, ?_, ?_, ?_, ?_, ?_, ?_, ?_, ?_, ?_, ?_, ?_, ?_, ?_⟩ <;> (simp only [World.cell?, h]; rfl)
theorem mkRec_off {w : World} {b p k : Nat} (h : w.rangeAt b p (mkRec k)) :
    w.cell? ⟨b, p, none⟩ = some (.int .i64 (-9 - (k : Int))) ∧ w.cell? ⟨b, p + 1, none⟩ = some (.int .i64 0) ∧ w.cell? ⟨b, p + 2, none⟩ = some (.int .i64 0) ∧ w.cell? ⟨b, p + 3, none⟩ = some (.int .i64 0) ∧ w.cell? ⟨b, p + 4, none⟩ = some (.int .i64 0) ∧ w.cell? ⟨b, p + 5, none⟩ = some (.int .i64 0) ∧ w.cell? ⟨b, p + 6, none⟩ = some (.int .i64 0) ∧ w.cell? ⟨b, p + 7, none⟩ = some (.string ⟨#[]⟩) ∧ w.cell? ⟨b, p + 8, none⟩ = some (.string ⟨#[]⟩) ∧ w.cell? ⟨b, p + 9, none⟩ = some (.string ⟨#[]⟩) ∧ w.cell? ⟨b, p + 10, none⟩ = some (.int .i64 0) ∧ w.cell? ⟨b, p + 11, none⟩ = some (.int .i64 0) ∧ w.cell? ⟨b, p + 12, none⟩ = some (.int .i64 0) ∧ w.cell? ⟨b, p + 13, none⟩ = some (.string ⟨#[]⟩) :=
  ⟨h 0 _ rfl, h 1 _ rfl, h 2 _ rfl, h 3 _ rfl, h 4 _ rfl, h 5 _ rfl, h 6 _ rfl, h 7 _ rfl, h 8 _ rfl, h 9 _ rfl, h 10 _ rfl, h 11 _ rfl, h 12 _ rfl, h 13 _ rfl⟩
theorem mkRec_one (k : Nat) : ∀ u ∈ mkRec k, u.oneCell' = true := by
  intro u hu
  simp only [mkRec, List.mem_cons, List.not_mem_nil, or_false] at hu
  rcases hu with rfl | rfl | rfl | rfl | rfl | rfl | rfl | rfl | rfl | rfl | rfl | rfl | rfl | rfl <;> rfl
theorem mkRec_neq (k : Nat) (w : World) : (binOp .neq 25 (.agg #[.int .i64 (-9 - (k : Int)), .int .i64 0, .int .i64 0, .int .i64 0, .int .i64 0, .int .i64 0, .int .i64 0, .string ⟨#[]⟩, .string ⟨#[]⟩, .string ⟨#[]⟩, .int .i64 0, .int .i64 0, .int .i64 0, .string ⟨#[]⟩]) (.agg #[.int .i64 (-9 - (k : Int)), .int .i64 0, .int .i64 0, .int .i64 0, .int .i64 0, .int .i64 0, .int .i64 0, .string ⟨#[]⟩, .string ⟨#[]⟩, .string ⟨#[]⟩, .int .i64 0, .int .i64 0, .int .i64 0, .string ⟨#[]⟩])).run Try.prog w = .ok (.bool false) w := by
  have h := neq_rec ⟨-9 - (k : Int), 0, 0, 0, 0, 0, ⟨0, ⟨#[]⟩, ⟨#[]⟩, ⟨#[]⟩, 0, 0, 0⟩, ⟨#[]⟩⟩ ⟨-9 - (k : Int), 0, 0, 0, 0, 0, ⟨0, ⟨#[]⟩, ⟨#[]⟩, ⟨#[]⟩, 0, 0, 0⟩, ⟨#[]⟩⟩ w
  rw [(Rec.same_iff _ _).2 rfl] at h
  exact h

theorem book_cells {w : World} {bp : Nat} {a b c d : Value} {t : TypeId} (h : w.heap[bp]? = some (.cells #[a, b, c, d] t)) :
    w.cell? ⟨bp, 0, none⟩ = some a ∧ w.cell? ⟨bp, 1, none⟩ = some b ∧ w.cell? ⟨bp, 2, none⟩ = some c ∧ w.cell? ⟨bp, 3, none⟩ = some d ∧ ∀ o, w.frozen? ⟨bp, o, none⟩ = false := by
  refine ⟨?_, ?_, ?_, ?_, fun o => ?_⟩
  · simp only [World.cell?, h]; rfl
  · simp only [World.cell?, h]; rfl
  · simp only [World.cell?, h]; rfl
  · simp only [World.cell?, h]; rfl
  · simp [World.frozen?, h]
def Held (p : Prop) : Prop := p
theorem Held.out {p : Prop} (h : Held p) : p := h
end Go.Proofs.Ytcbbnmodjnnbeaa
/- The walk of the store's raise: the floor comes up, and what nobody can ask for is forgotten. -/
set_option linter.unusedSimpArgs false
set_option linter.unusedVariables false
namespace Go.Proofs.Ytcbbnmodjnnbeaa
open Go.RowKit

def St.raise (s : St) (f : Nat) : St := { s with floor := f, vers := fun k => (s.vers k).drop (dropN (s.vers k) f) }
theorem raiseNo (w : World) (p b : Nat) (D : DataW Value) (s : St) (h : StoreAt w p b D s) (f : Int) (hf : f ≤ s.floor ∨ (s.rev : Int) < f) :
    Calls Try.prog 166 #[.pointer (some ⟨p, 0, none⟩), .int .i64 f] w fun e w' => e = .returned (.bool false) ∧ w' = w := by
  obtain ⟨c0, c1, c2, cf⟩ := st_cells h.blk
  clear h
  by_cases hf1 : f ≤ s.floor
  · go_enter Try.func166, Try.ntmps166
    go_wp2
    go_ret
    exact ⟨rfl, rfl⟩
  · have hf2 : (s.rev : Int) < f := by omega
    go_enter Try.func166, Try.ntmps166
    go_wp2
    go_ret
    exact ⟨rfl, rfl⟩
theorem str_inv (key : Value) (l : Lit) (h : keyOf Try.prog 9 key = some l) : ∃ k : ByteArray, key = .string k ∧ l = kl k ∧ k.size ≤ maxLen := by
  cases key <;> simp [keyOf, Try.underlying9, mapKey] at h
  obtain ⟨h1, h2⟩ := h
  exact ⟨_, rfl, h2.symm, h1⟩

theorem hdAt_put {D : DataW Value} (hD : Go.Maps.IsMap D) (key : ByteArray) (v' : Value) (k : ByteArray) (u : Value) : hdAt (D.put (kl key) (.held v')) k u ↔ (k = key ∧ u = v') ∨ (k ≠ key ∧ hdAt D k u) := by
  by_cases hk : k = key
  · subst hk
    unfold hdAt
    rw [Maps.atKey_put_same hD (kl_key k)]
    constructor
    · intro e; injection e with e; exact .inl ⟨rfl, e.symm⟩
    · rintro (⟨_, rfl⟩ | ⟨hn, _⟩)
      · rfl
      · exact absurd rfl hn
  · unfold hdAt
    rw [Maps.atKey_put_other (fun e => hk (kl_inj e))]
    constructor
    · exact fun e => .inr ⟨hk, e⟩
    · rintro (⟨hn, _⟩ | ⟨_, e⟩)
      · exact absurd hn hk
      · exact e
theorem hdAt_del {D : DataW Value} (key : ByteArray) (k : ByteArray) (u : Value) : hdAt (D.del (kl key)) k u ↔ (k = key ∧ u = nilS) ∨ (k ≠ key ∧ hdAt D k u) := by
  by_cases hk : k = key
  · subst hk
    unfold hdAt
    rw [Maps.atKey_del_same]
    constructor
    · intro e; injection e with e; exact .inl ⟨rfl, e.symm⟩
    · rintro (⟨_, rfl⟩ | ⟨hn, _⟩)
      · rfl
      · exact absurd rfl hn
  · unfold hdAt
    rw [Maps.atKey_del_other (fun e => hk (kl_inj e))]
    constructor
    · exact fun e => .inr ⟨hk, e⟩
    · rintro (⟨hn, _⟩ | ⟨_, e⟩)
      · exact absurd hn hk
      · exact e
theorem foot_put {b : Nat} {D : DataW Value} (hD : Go.Maps.IsMap D) {key : ByteArray} {v v' : Value} (hv : hdAt D key v) (hb : v'.ownBlock = v.ownBlock) {x : Nat} (hx : footM b (D.put (kl key) (.held v')) x) : footM b D x := by
  rcases hx with rfl | ⟨k, u, hu, hx⟩
  · exact .inl rfl
  · rcases (hdAt_put hD key v' k u).1 hu with ⟨rfl, rfl⟩ | ⟨_, hu⟩
    · exact .inr ⟨_, v, hv, hb ▸ hx⟩
    · exact .inr ⟨k, u, hu, hx⟩
theorem foot_del {b : Nat} {D : DataW Value} {key : ByteArray} {x : Nat} (hx : footM b (D.del (kl key)) x) : footM b D x := by
  rcases hx with rfl | ⟨k, u, hu, hx⟩
  · exact .inl rfl
  · rcases (hdAt_del key k u).1 hu with ⟨rfl, rfl⟩ | ⟨_, hu⟩
    · cases hx
    · exact .inr ⟨k, u, hu, hx⟩
theorem HMap.del {w w1 w2 : World} {p b n : Nat} {D : DataW Value} {vers : ByteArray → List Ver} (h : HMap w p b D vers) (key : ByteArray) (v v' : Value) (hv : hdAt D key v)
    (hg : Grew w w1 v v') (hm : w2.ownsMap Try.prog 9 rawElem b n (D.del (kl key))) (hg2 : w1.grownBy w2 (some b)) :
    HMap w2 p b (D.del (kl key)) (fun k => if k = key then [] else vers k) := by
  have hsz := hg.g.size
  refine ⟨ownsMap_tight hm, fun k => ?_, fun k u x hu hx => ?_, fun k k' u u' x hkk hu hu' hx hx' => ?_, fun k => ?_⟩
  · by_cases hk : k = key
    · subst hk
      refine ⟨nilS, (hdAt_del _ _ _).2 (.inl ⟨rfl, rfl⟩), ?_⟩
      rw [if_pos rfl]
      exact World.ownL.nil _ _ _
    · obtain ⟨u, h1, h2⟩ := h.hist k
      refine ⟨u, (hdAt_del _ _ _).2 (.inr ⟨hk, h1⟩), ?_⟩
      rw [if_neg hk]
      refine (h2.grew hg fun x hx hx' => h.apart k key u v x hk h1 hv hx hx').keep fun x hx => hg2.block x ?_ (fun e => (h.off k u x h1 hx).1 (by injection e))
      have := h2.lt hx; omega
  · rcases (hdAt_del _ _ _).1 hu with ⟨rfl, rfl⟩ | ⟨hk, hu⟩
    · cases hx
    · exact h.off k u x hu hx
  · rcases (hdAt_del _ _ _).1 hu with ⟨_, e2⟩ | ⟨hk, hq⟩
    · rw [e2] at hx; cases hx
    · rcases (hdAt_del _ _ _).1 hu' with ⟨_, e4⟩ | ⟨hk', hq'⟩
      · rw [e4] at hx'; cases hx'
      · exact h.apart k k' u u' x hkk hq hq' hx hx'
  · by_cases hk : k = key
    · subst hk
      rw [Maps.has_del_same, if_pos rfl]
      exact ⟨fun h => (Bool.noConfusion h), fun h => absurd rfl h⟩
    · rw [Maps.has_del_other (fun e => hk (kl_inj e)), if_neg hk]
      exact h.has k
/-- On the way of a raise: what is still to come stands as it was. -/
def mixV (s : St) (f : Nat) (left : Lit → Bool) (k : ByteArray) : List Ver := if left (kl k) = true then s.vers k else (s.vers k).drop (dropN (s.vers k) f)
theorem mix_step (s : St) (f : Nat) (left : Lit → Bool) (key : ByteArray) (vs : List Ver) (hvs : vs = (s.vers key).drop (dropN (s.vers key) f)) : (fun k => if k = key then vs else mixV s f left k) = mixV s f (fun z => left z && !z.sameKey (kl key)) := by
  funext k
  by_cases hk : k = key
  · subst hk
    rw [if_pos rfl, hvs]
    unfold mixV
    have e : (kl k).sameKey (kl k) = true := WideAt.sameKey_self (kl_key k)
    simp [e]
  · rw [if_neg hk]
    unfold mixV
    have e : (kl k).sameKey (kl key) = false := Maps.sameKey_ne (fun e => hk (kl_inj e))
    simp [e]
theorem mix_start {w : World} {p b : Nat} {D : DataW Value} {s : St} (h : HMap w p b D s.vers) (f : Nat) : mixV s f (Maps.has D) = s.vers := by
  funext k
  unfold mixV
  by_cases hk : Maps.has D (kl k) = true
  · rw [if_pos hk]
  · rw [if_neg hk]
    have : s.vers k = [] := by
      cases hv : s.vers k with
      | nil => rfl
      | cons x xs => exact absurd ((h.has k).2 (by rw [hv]; simp)) hk
    rw [this]; simp
theorem mix_end (s : St) (f : Nat) (left : Lit → Bool) (hl : ∀ z, left z = false) : mixV s f left = (s.raise f).vers := by
  funext k
  unfold mixV
  rw [hl, if_neg (by simp)]
  rfl
theorem drop_good {s : St} (h : Good s) (f : Nat) (hf : f ≤ s.rev) : Good (s.raise f) := by
  refine ⟨h.rev, hf, fun k => ?_, fun k v hv => h.bd k v (List.mem_of_mem_drop hv), h.ss⟩
  exact (h.asc k).sublist (List.drop_sublist _ _)

/-- What holds at the head of a raise's round. -/
structure RInv (w wr : World) (p b : Nat) (D D' : DataW Value) (s s2 : St) (f : Nat) (left : Lit → Bool) : Prop where
  map : HMap wr p b D' (mixV s f left)
  blk : wr.heap[p]? = some (.cells (s2.cells b) 141)
  foot : ∀ x, footM b D' x → footM b D x
  turned : w.turned wr (footS p b D)
  sz : Maps.size D' ≤ Maps.size D
  old : ∀ x, footM b D x → x < w.heap.size
  pold : p < w.heap.size
  pb : p ≠ b
theorem RInv.next {w wr w1 : World} {p b : Nat} {D D' : DataW Value} {s s2 : St} {f : Nat} {left : Lit → Bool} (h : RInv w wr p b D D' s s2 f left) (hg : wr.grownBy w1 (some w.heap.size)) : RInv w w1 p b D D' s s2 f left := by
  have hsz := h.turned.size
  have hk : ∀ x, x < w.heap.size → w1.heap[x]? = wr.heap[x]? := fun x hx => hg.block x (by omega) (fun e => by injection e with e; omega)
  refine ⟨h.map.keep fun x hx => hk x (h.old x (h.foot x hx)), (hk p h.pold).trans h.blk, h.foot, h.turned.trans (.of_grown hg) fun k hk e => ?_, h.sz, h.old, h.pold, h.pb⟩
  injection e with e
  omega
theorem RInv.hd {w wr : World} {p b : Nat} {D D' : DataW Value} {s s2 : St} {f : Nat} {left : Lit → Bool} (h : RInv w wr p b D D' s s2 f left) {key : ByteArray} {a : Option Addr} {n c : Nat} {y : DataW Value × List MemPlace} {l : Lit}
    (hkey : keyOf Try.prog 9 (.string key) = some l) (hlx : left l = true) (hv : rawElem (.slice a n c) = some y) (hat : ∀ zd, D'.atKey l zd = y.1) :
    l = kl key ∧ hdAt D' key (.slice a n c) ∧ Maps.has D' (kl key) = true ∧ n = (s.vers key).length ∧ ∃ g, a = some ⟨g, 0, none⟩ ∧ wr.ownL 158 3 (.slice (some ⟨g, 0, none⟩) (s.vers key).length c) ((s.vers key).map Ver.cells) ∧ footM b D g ∧ g ≠ b ∧ g ≠ p := by
  obtain ⟨k, h1, rfl, _⟩ := str_inv _ _ hkey
  injection h1 with h1
  subst h1
  obtain ⟨rfl, _⟩ := rawElem_inv hv
  have hhd : hdAt D' key (.slice a n c) := hat _
  have hhas : Maps.has D' (kl key) = true := Maps.has_true_of_atKey hat
  have hm : mixV s f left key = s.vers key := if_pos hlx
  have hne : s.vers key ≠ [] := hm ▸ (h.map.has key).1 hhas
  have hown := h.map.own hhd
  rw [hm] at hown
  refine ⟨rfl, hhd, hhas, ?_⟩
  have hof := fun x hx => h.map.off key _ x hhd hx
  have hft := fun x hx => h.foot x (.inr ⟨key, _, hhd, hx⟩)
  rcases hown.1.2 with ⟨_, h2⟩ | ⟨g, cap, cur, hv', _⟩
  · exact absurd (List.eq_nil_of_length_eq_zero (by simpa using h2)) hne
  · rw [List.length_map] at hv'
    injection hv' with e1 e2 e3
    subst e1 e2 e3
    exact ⟨rfl, g, rfl, hown, hft g rfl, (hof g rfl).1, (hof g rfl).2⟩
theorem RInv.del {w w1 w2 w3 : World} {p b n : Nat} {D D' : DataW Value} {s s2 : St} {f : Nat} {left : Lit → Bool} (h : RInv w w1 p b D D' s s2 f left) {key : ByteArray} {v v' : Value} (hhd : hdAt D' key v) (hv : ∀ x, v.ownBlock = some x → footM b D x ∧ x ≠ p)
    (hg : Grew w1 w2 v v') (hm : w3.ownsMap Try.prog 9 rawElem b n (D'.del (kl key))) (hg3 : w2.grownBy w3 (some b)) (hd : (s.vers key).drop (dropN (s.vers key) f) = []) :
    RInv w w3 p b D (D'.del (kl key)) s s2 f (fun z => left z && !z.sameKey (kl key)) := by
  have hsz := h.turned.size
  have hs2 := hg.g.size
  have hp := h.pold
  have hM := h.map.del key v v' hhd hg hm hg3
  rw [mix_step s f left key [] hd.symm] at hM
  refine ⟨hM, ?_, fun x hx => h.foot x (foot_del hx), ?_, ?_, h.old, h.pold, h.pb⟩
  · rw [hg3.block p (by omega) (fun e => h.pb (by injection e)), hg.g.block p (by omega) (fun e => (hv p e.symm).2 rfl)]
    exact h.blk
  · refine (h.turned.grew hg fun k _ hk => .inr (hv k hk).1).trans (.of_grown hg3) fun k _ e => ?_
    injection e with e
    exact .inr (.inl e.symm)
  · have h1 := Maps.size_del (k := kl key) (h.map.map.tidy strKeyed)
    have h2 := h.sz
    omega
theorem RInv.put {w w1 w2 w3 : World} {p b n : Nat} {D D' : DataW Value} {s s2 : St} {f : Nat} {left : Lit → Bool} (h : RInv w w1 p b D D' s s2 f left) {key : ByteArray} {v v' : Value} (hhd : hdAt D' key v) (hhas : Maps.has D' (kl key) = true) (hv : ∀ x, v.ownBlock = some x → footM b D x ∧ x ≠ p) (hb : v'.ownBlock = v.ownBlock)
    (hg : Grew w1 w2 v v') (ho : w2.ownL 158 3 v' (((s.vers key).drop (dropN (s.vers key) f)).map Ver.cells)) (hm : w3.ownsMap Try.prog 9 rawElem b n (D'.put (kl key) (.held v'))) (hg3 : w2.grownBy w3 (some b)) (hd : (s.vers key).drop (dropN (s.vers key) f) ≠ []) :
    RInv w w3 p b D (D'.put (kl key) (.held v')) s s2 f (fun z => left z && !z.sameKey (kl key)) := by
  have hsz := h.turned.size
  have hs2 := hg.g.size
  have hp := h.pold
  have hps : Maps.size (D'.put (kl key) (.held v')) = Maps.size D' := by
    rw [Maps.size_put (h.map.map.tidy strKeyed), if_pos hhas]
  have hm' : w3.ownsMap Try.prog 9 rawElem b (Maps.size D' + 1) (D'.put (kl key) (.held v')) := by
    have := ownsMap_tight hm
    rw [hps] at this
    obtain ⟨es, clock, e1, e2, e3, e4⟩ := this
    exact ⟨es, clock, e1, e2, Nat.le_succ_of_le e3, e4⟩
  obtain ⟨hM, _⟩ := h.map.put key v v' _ hhd hd (by omega) hg ho hm' hg3
  rw [mix_step s f left key _ rfl] at hM
  refine ⟨hM, ?_, fun x hx => h.foot x (foot_put h.map.map.isMap hhd hb hx), ?_, by rw [hps]; exact h.sz, h.old, h.pold, h.pb⟩
  · rw [hg3.block p (by omega) (fun e => h.pb (by injection e)), hg.g.block p (by omega) (fun e => (hv p e.symm).2 rfl)]
    exact h.blk
  · refine (h.turned.grew hg fun k _ hk => .inr (hv k hk).1).trans (.of_grown hg3) fun k _ e => ?_
    injection e with e
    exact .inr (.inl e.symm)
set_option maxRecDepth 100000 in
set_option maxHeartbeats 1000000 in
theorem raiseYes (w : World) (p b : Nat) (D : DataW Value) (s : St) (h : StoreAt w p b D s) (f : Nat) (hf1 : s.floor < f) (hf2 : f ≤ s.rev) :
    Calls Try.prog 166 #[.pointer (some ⟨p, 0, none⟩), .int .i64 f] w fun e w' => e = .returned (.bool true) ∧ ∃ D', StoreAt w' p b D' (s.raise f) ∧ (∀ x, footM b D' x → footM b D x) ∧ w.turned w' (footS p b D) := by
  obtain ⟨c0, c1, c2, cf⟩ := st_cells h.blk
  have hp : p < w.heap.size := (Array.getElem?_eq_some_iff.1 h.blk).1
  have hpb := h.pb
  have hff1 : (s.floor : Int) < f := by omega
  have hff2 : (f : Int) ≤ s.rev := by omega
  have H : Hid (StoreAt w p b D s) := h
  have HF : Hid (f ≤ s.rev) := hf2
  obtain ⟨s2, HS2⟩ : ∃ s2 : St, Hid (s2 = { s with floor := f }) := ⟨_, rfl⟩
  have hown : w.ownsMap Try.prog 9 rawElem b (Maps.size D) D := h.map.map
  have HW1 : Hid (∀ w1 : World, w1 = w.setCell ⟨p, 1, none⟩ (.int .i64 f) → w1.heap[p]? = some (.cells (s2.cells b) 141) ∧ HMap w1 p b D s.vers) := by
    rintro w1 rfl
    refine ⟨?_, h.map.keep fun x hx => Below.heap_setCell _ _ _ _ fun e => ?_⟩
    · rw [setCell_heapB, if_pos rfl, h.blk, HS2.out]; rfl
    · rcases hx with rfl | ⟨k, v, hv, hx⟩
      · exact hpb e.symm
      · exact (h.map.off k v x hv hx).2 e
  clear h hf1 hf2
  go_enter Try.func166, Try.ntmps166
  go_wp2_with (at_range; refine Held.out ?_)
  unfold Held
  refine wpList_range_own _ rfl _ 136 rfl 9 160 strKeyed Try.underlying136 rawElem b (Maps.size D) D rfl (HW1.out _ rfl).2.map ?_
  intro w0 hrg0 hg0 hs0
  go_frame
  go_wp2_with fail
  have hsz : (w.setCell ⟨p, 1, none⟩ (.int .i64 f)).heap.size = w.heap.size := by simp
  rw [hsz] at hrg0 hs0 ⊢
  have hI0 : RInv w w0 p b D D s s2 f (Maps.has D) := by
    have h1 := HW1.out _ rfl
    have hk : ∀ x, x < w.heap.size → w0.heap[x]? = (w.setCell ⟨p, 1, none⟩ (.int .i64 f)).heap[x]? := fun x hx => hg0.block x (by rw [hsz]; exact hx) (by simp)
    refine ⟨?_, (hk p hp).trans h1.1, fun x hx => hx, ?_, Nat.le_refl _, fun x hx => H.out.map.foot_lt hx, hp, hpb⟩
    · rw [mix_start H.out.map]
      exact h1.2.keep fun x hx => hk x (H.out.map.foot_lt hx)
    · exact ((World.turned.refl w _).set (fun _ => .inl rfl) _).trans (.of_grown hg0) fun k _ e => by cases e
  have HI0 : Hid (RInv w w0 p b D D s s2 f (Maps.has D)) := hI0
  clear hI0 HW1
  have hd1 : decide (f ≤ s.floor) = false := decide_eq_false (by omega)
  have hd2 : decide (s.rev < f) = false := decide_eq_false (by omega)
  simp only [hd1, hd2, Bool.or_false]
  clear hd1 hd2
  go_loopw [5] (fun _ wr => ∃ D' left cnt, wr.ranges Try.prog 9 rawElem b w.heap.size (Maps.size D) D' left cnt ∧ Hid (RInv w wr p b D D' s s2 f left)) (fun _ wr => wr.rangeLeft b w.heap.size)
  case atStart => exact ⟨_, _, _, hrg0, HI0⟩
  case round =>
    obtain ⟨D', left, cnt, hrg, HI⟩ := hrel
    go_wp2_with (at_next; refine Held.out ?_)
    unfold Held
    refine wpList_next_ranges (α := ByteArray) (β := Option Addr × Nat × Nat) _ rfl _ rfl 9 strKeyed rawElem .string (fun c => .slice c.1 c.2.1 c.2.2) (fun key l h => by obtain ⟨x, h1, _⟩ := str_inv key l h; exact ⟨x, h1⟩) (fun v y h => by obtain ⟨_, a, n, c, h1⟩ := rawElem_inv h; exact ⟨(a, n, c), h1⟩) b w.heap.size _ _ _ _ rfl hrg ?_ ?_
    · intro hc0 hl0
      go_frame
      go_wp2_with fail
      go_ret
      have hI := HI.out
      refine ⟨rfl, D', ⟨?_, ?_, ?_, ?_⟩, hI.foot, hI.turned⟩
      · rw [hI.blk, HS2.out]; rfl
      · have := hI.map
        rw [mix_end s f left hl0] at this
        exact this
      · exact drop_good H.out.good f HF.out
      · exact Nat.le_trans hI.sz H.out.sz
    · intro key c l y w1 cnt1 hkey hlx hv hat hrg1 hlt hg1 hs1 hen
      obtain ⟨a, n, c⟩ := c
      have hI1 := HI.out.next hg1
      obtain ⟨rfl, hhd, hhas, rfl, g, rfl, hown, hfg, hgb, hgp⟩ := hI1.hd hkey hlx hv hat
      have HK : Hid (hdAt D' key (.slice (some ⟨g, 0, none⟩) (s.vers key).length c) ∧ Maps.has D' (kl key) = true) := ⟨hhd, hhas⟩
      have HI1 : Hid (RInv w w1 p b D D' s s2 f left) := hI1
      have hgr : w.heap.size ≠ g := by have := H.out.map.foot_lt hfg; omega
      have hasc := H.out.good.asc key
      have hlen : (s.vers key).length ≤ 1000000 := Nat.le_trans (asc_len hasc (H.out.good.bd key)) H.out.good.rev
      have hcall := histFrom w1 g c (s.vers key) f hlen hasc hown
      have HKK : Hid (keyOf Try.prog 9 (.string key) = some (kl key)) := hkey
      clear hI1 hhd hhas hat hv hkey hown hasc hlen
      go_frame
      go_wp2_with fail
      refine hcall.mono ?_
      rintro e w2 ⟨rfl, ho2, hg2⟩
      have hrg2 := hrg1.kept hg2.g (fun e => hgb (by injection e with e; exact e.symm)) (fun e => hgr (by injection e))
      have HDl : Hid (((s.vers key).drop (dropN (s.vers key) f)).length = (s.vers key).length - dropN (s.vers key) f) := List.length_drop ..
      have HG2 : Hid (Grew w1 w2 (.slice (some ⟨g, 0, none⟩) (s.vers key).length c) (.slice (some ⟨g, 0, none⟩) ((s.vers key).length - dropN (s.vers key) f) c)) := hg2
      have HO2 : Hid (w2.ownL 158 3 (.slice (some ⟨g, 0, none⟩) ((s.vers key).length - dropN (s.vers key) f) c) (((s.vers key).drop (dropN (s.vers key) f)).map Ver.cells)) := ho2
      have hv : ∀ n x, (Value.slice (some ⟨g, 0, none⟩) n c).ownBlock = some x → footM b D x ∧ x ≠ p := fun n x e => by
        have : x = g := by injection e with e; exact e.symm
        subst this
        exact ⟨hfg, hgp⟩
      have hB2 : w2.heap[p]? = some (.cells (s2.cells b) 141) := by
        rw [hg2.g.block p (by have := HI1.out.turned.size; omega) (fun e => hgp (by injection e with e; exact e.symm))]
        exact HI1.out.blk
      clear c0 c1 c2 cf
      obtain ⟨c0, c1, c2, cf⟩ := st_cells hB2
      clear hg2 ho2 hg1 hs1 hB2
      generalize hm : (s.vers key).length - dropN (s.vers key) f = m at *
      clear hm
      rcases Nat.eq_zero_or_pos m with h0 | h0
      · subst h0
        go_wp2_with (at_delete; refine Held.out ?_)
        unfold Held
        refine wpList_delete_ranges _ rfl _ _ 136 9 rfl 160 strKeyed Try.underlying136 rawElem b w.heap.size _ D' _ _ rfl hrg2 (.string key) (kl key) rfl HKK.out ?_
        intro w3 cnt3 hrg3 hle hmt
        rw [Maps.strike_twice] at hrg3
        go_frame
        go_wp2_with fail
        go_roundw
        case rel => exact ⟨_, _, cnt3, hrg3, HI1.out.del HK.out.1 (hv _) HG2.out hrg3.owns hmt.grown (List.eq_nil_of_length_eq_zero HDl.out)⟩
        case measure => rw [hrg3.left_eq, hrg.left_eq]; omega
      · have hpos : (0 : Int) < m := by omega
        have hne0 : ((m : Int) == 0) = false := by rw [beq_eq_false_iff_ne]; omega
        go_wp2_with (at_mapUpdate; refine Held.out ?_)
        unfold Held
        refine wpList_mapUpdate_ranges _ rfl _ _ _ 136 rfl 9 160 strKeyed Try.underlying136 rawElem b w.heap.size _ D' _ _ rfl hrg2 (.string key) (.slice (some ⟨g, 0, none⟩) m c) (kl key) rfl rfl HKK.out (.held (.slice (some ⟨g, 0, none⟩) m c)) [] rfl HK.out.2 ?_
        intro w3 hrg3 hg3
        go_frame
        go_wp2_with fail
        go_roundw
        case rel => exact ⟨_, _, cnt1, hrg3, RInv.put (v' := .slice (some ⟨g, 0, none⟩) m c) HI1.out HK.out.1 HK.out.2 (hv _) rfl HG2.out HO2.out hrg3.owns hg3 (fun e => by have := HDl.out; rw [e] at this; simp at this; omega)⟩
        case measure => rw [hrg3.left_eq, hrg.left_eq]; omega
end Go.Proofs.Ytcbbnmodjnnbeaa
