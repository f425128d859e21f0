/- The program's own bytes: numbers, texts and blocks put behind a slice. -/
import Derived.Test.YtcbbnmodjnnbeaaOwn
import Derived.Test.YtcbbnmodjnnbeaaEncRef
set_option linter.unusedSimpArgs false
set_option linter.unusedVariables false
namespace Go.Proofs.Ytcbbnmodjnnbeaa
open Go.RowKit

def byteV (c : UInt8) : Value := .int .u8 c.toNat
def OwnB (w : World) (base : Nat) (v : Value) (l : List UInt8) : Prop := w.ownsRow base 5 1 v l.length (l.map byteV)
theorem infoB : (Try.prog.info? 5).map (fun i => (i.zero, i.size, i.bytes)) = some (some (.int .u8 0), 1, 1) := by kernel_rfl
theorem OwnB.nil (w : World) (base : Nat) : OwnB w base (.slice none 0 0) [] := World.ownsRow_nil w base _ 1
theorem OwnB.lt {w : World} {base : Nat} {v : Value} {l : List UInt8} (h : OwnB w base v l) {k : Nat} (hk : v.ownBlock = some k) : base ≤ k ∧ k < w.heap.size := World.ownsRow.lt h k hk
theorem OwnB.keep {w w' : World} {base : Nat} {v : Value} {l : List UInt8} (h : OwnB w base v l) (hh : ∀ k, v.ownBlock = some k → w'.heap[k]? = w.heap[k]?) : OwnB w' base v l := by
  refine ⟨h.1, ?_⟩
  rcases h.2 with h2 | ⟨g, cap, cur, hv, hg, hb, r⟩
  · exact .inl h2
  · exact .inr ⟨g, cap, cur, hv, hg, by rw [hh g (by rw [hv]; rfl)]; exact hb, r⟩
theorem OwnB.alloc {w : World} {base : Nat} {v : Value} {l : List UInt8} (h : OwnB w base v l) (o : Obj) : OwnB (w.alloc o) base v l := World.ownsRow.alloc h o
theorem OwnB.ext {w : World} {base : Nat} {v : Value} {l : List UInt8} (h : OwnB w base v l) (x : Grow) : OwnB (w.ext x) base v l :=
  h.keep fun k hk => (Below.of_ext w x).block k (h.lt hk).2
theorem byteV_one (l : List UInt8) : ∀ u ∈ l.map byteV, u.oneCell' = true := by
  intro u hu
  obtain ⟨_, _, rfl⟩ := List.mem_map.1 hu
  rfl
theorem wpB {w : World} {ops : Array Oper} {rest : List Oper} {o : Oper} {a : Act} {Q : Exit → Act → World → Prop} (hgd : o.guard = none) (sl xo : Operand) (tx : TypeId)
    (ho : o.op = .call { callee := .builtin .append, args := #[sl, xo], argTypes := #[47, tx] }) (base : Nat) (v : Value) (l : List UInt8) (hv : a.eval sl = v) (hown : OwnB w base v l)
    (x : Value) (m : Nat) (news : List UInt8) (hx : a.eval xo = x) (hm : m = news.length) (hs : Src Try.prog 1 tx x m (news.map byteV) w) (hlen : l.length + news.length ≤ 1099511627776) (hbase : base ≤ w.heap.size)
    (h : ∀ v' w', OwnB w' base v' (l ++ news) → Grew w w' v v' → wpList Try.prog ops Q rest (a.put o.dst v') w') : wpList Try.prog ops Q (o :: rest) a w := by
  obtain ⟨i, hi, hz, h1, hb⟩ := info_parts infoB
  subst hm
  refine wpList_append_grew (P := Try.prog) hgd sl xo 47 tx ho base 5 i (.int .u8 0) Try.underlying47 hi hz (by rw [h1]; rfl) (by omega) v l.length (l.map byteV) hv (by rw [h1]; exact hown) x news.length (news.map byteV) hx
    (by rw [h1]; exact hs) (by unfold maxLen; omega) (by rw [hb]; omega) hbase fun v' w' h2 h3 => h v' w' ?_ h3
  unfold OwnB
  rw [List.length_append, List.map_append, ← h1]
  exact h2
theorem wpB_str {w : World} {ops : Array Oper} {rest : List Oper} {o : Oper} {a : Act} {Q : Exit → Act → World → Prop} (hgd : o.guard = none) (sl xo : Operand)
    (ho : o.op = .call { callee := .builtin .append, args := #[sl, xo], argTypes := #[47, 9] }) (base : Nat) (v : Value) (l : List UInt8) (hv : a.eval sl = v) (hown : OwnB w base v l)
    (s : ByteArray) (hx : a.eval xo = .string s) (hlen : l.length + s.size ≤ 1099511627776) (hbase : base ≤ w.heap.size)
    (h : ∀ v' w', OwnB w' base v' (l ++ s.data.toList) → Grew w w' v v' → wpList Try.prog ops Q rest (a.put o.dst v') w') : wpList Try.prog ops Q (o :: rest) a w :=
  wpB hgd sl xo 9 ho base v l hv hown (.string s) s.size s.data.toList hx (len_data s).symm (Src.ofString w Try.underlying9 s) (by rw [len_data]; exact hlen) hbase h
theorem wpB_new {w : World} {ops : Array Oper} {rest : List Oper} {o : Oper} {a : Act} {Q : Exit → Act → World → Prop} (hgd : o.guard = none) (sl xo : Operand)
    (ho : o.op = .call { callee := .builtin .append, args := #[sl, xo], argTypes := #[47, 47] }) (base : Nat) (v : Value) (l : List UInt8) (hv : a.eval sl = v) (hown : OwnB w base v l)
    (news : List UInt8) (b m : Nat) (hm : m = news.length) (hx : a.eval xo = .slice (some ⟨b, 0, none⟩) m m) (hc : w.heap[b]? = some (.cells (news.map byteV).toArray 5)) (hlen : l.length + news.length ≤ 1099511627776) (hbase : base ≤ w.heap.size)
    (h : ∀ v' w', OwnB w' base v' (l ++ news) → Grew w w' v v' → wpList Try.prog ops Q rest (a.put o.dst v') w') : wpList Try.prog ops Q (o :: rest) a w :=
  wpB hgd sl xo 47 ho base v l hv hown _ m news hx hm (Src.ofSlice w Try.underlying47 _ m m _ (by simp [hm]) (fun j u hj => by
    rw [Addr.add_lit]; simp only [World.cell?, hc, Nat.zero_add]; simpa using hj) (byteV_one news)) hlen hbase h
theorem new_cells {w : World} {cs cs' : Array Value} {e : TypeId} (h : cs' = cs) : (w.alloc (.cells cs e)).heap[w.heap.size]? = some (.cells cs' e) := by subst h; exact heap_alloc_new w _
theorem byteV_of (n : Nat) (h : n < 256) : byteV (UInt8.ofNat n) = .int .u8 (n : Int) := by
  unfold byteV; rw [UInt8.toNat_ofNat_of_lt' (by simpa [UInt8.size] using h)]

set_option maxHeartbeats 400000 in
theorem appendNumber (v : Value) (l : List UInt8) (n : Nat) (w : World) (base : Nat) (hown : OwnB w base v l) (hbase : base ≤ w.heap.size) (hn : n < 16777216) (hl : l.length ≤ 1000000000000) :
    Calls Try.prog 75 #[v, .int .i64 n] w fun e w' => ∃ v', e = .returned v' ∧ OwnB w' base v' (l ++ be 3 n) ∧ Grew w w' v v' := by
  have HE : Hid (([UInt8.ofNat (n / 65536), UInt8.ofNat (n / 256 % 256), UInt8.ofNat (n % 256)].map byteV).toArray = #[.int .u8 ((n : Int) / 65536), .int .u8 ((n : Int) / 256 % 256), .int .u8 ((n : Int) % 256)]) := by
    show _ = _
    simp only [List.map_cons, List.map_nil, byteV_of (n / 65536) (by omega), byteV_of (n / 256 % 256) (by omega), byteV_of (n % 256) (by omega)]
    simp
  have HB : Hid (be 3 n = [UInt8.ofNat (n / 65536), UInt8.ofNat (n / 256 % 256), UInt8.ofNat (n % 256)]) := by
    show _ = _
    simp [be, Nat.mod_eq_of_lt (show n / 65536 < 256 by omega)]
  have ho : ∀ o, OwnB (w.alloc o) base v l := fun o => hown.alloc o
  clear hown
  go_enter Try.func75, Try.ntmps75
  go_wp2_with (at_builtin; refine wpB_new rfl _ _ rfl base v l rfl (ho _) _ _ 3 rfl rfl (new_cells HE.out) (by simp only [List.length_cons, List.length_nil]; omega) (by simp; omega) ?_; intro v1 w1 ho1 hg1)
  go_ret
  exact ⟨v1, rfl, by rw [HB.out]; exact ho1, ((Grew.refl w v).alloc _).trans hg1⟩
end Go.Proofs.Ytcbbnmodjnnbeaa
