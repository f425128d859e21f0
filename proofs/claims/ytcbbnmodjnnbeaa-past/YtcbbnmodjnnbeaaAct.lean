/- The walk of the store's act: one command done. -/
import Derived.Test.YtcbbnmodjnnbeaaRaise
import Derived.Test.YtcbbnmodjnnbeaaEncRef
set_option linter.unusedSimpArgs false
set_option linter.unusedVariables false
namespace Go.Proofs.Ytcbbnmodjnnbeaa
open Go.RowKit

theorem storeRevs (w : World) (p b : Nat) (D : DataW Value) (s : St) (h : StoreAt w p b D s) :
    Calls Try.prog 30 #[.pointer (some ⟨p, 0, none⟩)] w fun e w' => e = .returned (.tuple #[.int .i64 s.rev, .int .i64 s.floor]) ∧ Below w.heap.size w w' := by
  obtain ⟨c0, c1, c2, cf⟩ := st_cells h.blk
  clear h
  go_enter Try.func30, Try.ntmps30
  go_wp2_with fail
  go_region_with fail
  all_goals (go_wp2_with fail; exact bodyPost_ret (v := .tuple #[.int .i64 s.rev, .int .i64 s.floor]) (by simp [results, Try.results30, go_sem]) rfl ⟨rfl, (by repeat (first | exact Below.refl _ _ | assumption | with_reducible refine below_drewN ?_ _ | refine Gr.ext ?_ _ | refine Gr.alloc ?_ _ | refine Gr.drew ?_ | (refine Gr.set ?_ (by first | (simp; done) | (simp; omega)) _)))⟩)
def St.tryLay (s : St) (key val : ByteArray) (gone : Bool) : Bool × St := if s.rev = 1000000 then (false, s) else (true, s.lay key val gone)
def St.act (s : St) (c : Cmd) : Bool × St :=
  if c.kind = 1 then s.tryLay c.key c.val false
  else if c.kind = 3 then (if (atV (s.vers c.key) s.rev).gone = false ∧ (atV (s.vers c.key) s.rev).val = c.old then s.tryLay c.key c.val false else (false, s))
  else if c.kind = 2 then (if (atV (s.vers c.key) s.rev).gone = false then s.tryLay c.key ⟨#[]⟩ true else (false, s))
  else if c.kind = 4 then (if (s.floor : Int) < c.rev ∧ c.rev ≤ s.rev then (true, s.raise c.rev.toNat) else (false, s))
  else (true, s)
/-- What a call that changes the store gives. -/
def Chg (w w' : World) (p b : Nat) (D : DataW Value) (s' : St) : Prop := ∃ D', StoreAt w' p b D' s' ∧ (∀ x, footM b D' x → footM b D x ∨ w.heap.size ≤ x) ∧ w.turned w' (footS p b D)
theorem Chg.refl' {w w' : World} {p b : Nat} {D : DataW Value} {s : St} (h : StoreAt w p b D s) (hb : Below w.heap.size w w') : Chg w w' p b D s := by
  refine ⟨D, ⟨?_, h.map.keep fun x hx => hb.block x (h.map.foot_lt hx), h.good, h.sz⟩, fun x hx => .inl hx, World.turned.of_below hb _⟩
  rw [hb.block p (Array.getElem?_eq_some_iff.1 h.blk).1]; exact h.blk
theorem tryLay (w : World) (p b : Nat) (D : DataW Value) (s : St) (h : StoreAt w p b D s) (key val : ByteArray) (gone : Bool) (r0 : Int) (hk : key.size ≤ 1000000) (hv : val.size ≤ 1000000) :
    Calls Try.prog 165 #[.pointer (some ⟨p, 0, none⟩), .string key, .agg #[.int .i64 r0, .string val, .bool gone]] w fun e w' => e = .returned (.bool (s.tryLay key val gone).1) ∧ Chg w w' p b D (s.tryLay key val gone).2 := by
  unfold St.tryLay
  by_cases hr : s.rev = 1000000
  · rw [if_pos hr]
    exact (layFull w p b D s h key val gone r0 hr).mono fun e w' ⟨h1, h2⟩ => ⟨h1, Chg.refl' h h2⟩
  · rw [if_neg hr]
    exact (layOk w p b D s h key val gone r0 (by have := h.good.rev; omega) hk hv).mono fun e w' ⟨h1, h2⟩ => ⟨h1, h2⟩
theorem tryRaise (w : World) (p b : Nat) (D : DataW Value) (s : St) (h : StoreAt w p b D s) (f : Int) :
    Calls Try.prog 166 #[.pointer (some ⟨p, 0, none⟩), .int .i64 f] w fun e w' => e = .returned (.bool (if (s.floor : Int) < f ∧ f ≤ s.rev then (true, s.raise f.toNat) else (false, s)).1) ∧ Chg w w' p b D (if (s.floor : Int) < f ∧ f ≤ s.rev then (true, s.raise f.toNat) else (false, s)).2 := by
  by_cases hf : (s.floor : Int) < f ∧ f ≤ s.rev
  · rw [if_pos hf]
    obtain ⟨n, rfl⟩ : ∃ n : Nat, f = n := ⟨f.toNat, by omega⟩
    exact (raiseYes w p b D s h n (by omega) (by omega)).mono fun e w' ⟨h1, D', h2, h3, h4⟩ => ⟨h1, D', h2, fun x hx => .inl (h3 x hx), h4⟩
  · rw [if_neg hf]
    exact (raiseNo w p b D s h f (by omega)).mono fun e w' ⟨h1, h2⟩ => ⟨h1, by subst h2; exact Chg.refl' h (Below.refl _ _)⟩

theorem wp_joinQ {P : Program} {c : Code} {Q : Exit → Act → World → Prop} {a : Act} {W : World} (fa : Nat → Act) (F : Nat → World → Prop) (h1 : Code.wp P c (fun e a' w' => match e with | .normal => ∃ q, a' = fa q ∧ F q w' | _ => False) a W) (h2 : ∀ q w', F q w' → Q .normal (fa q) w') : Code.wp P c Q a W :=
  Code.wp_mono (by
    intro e a' w' h
    cases e <;> try exact h.elim
    obtain ⟨q, rfl, h⟩ := h
    exact h2 q _ h) h1
theorem keepA1 (w : World) (o : Obj) : ∀ x, x < w.heap.size → (w.alloc o).drew.heap[x]? = w.heap[x]? := fun x hx => Below.heap_alloc _ _ _ hx
theorem keepA2 (w : World) (o o2 : Obj) : ∀ x, x < w.heap.size → ((w.alloc o).alloc o2).drew.heap[x]? = w.heap[x]? := fun x hx => (Below.heap_alloc _ _ _ (by rw [World.alloc]; simp; omega)).trans (Below.heap_alloc _ _ _ hx)
set_option maxRecDepth 100000 in
set_option maxHeartbeats 20000000 in
theorem storeAct (w : World) (p b : Nat) (D : DataW Value) (s : St) (h : StoreAt w p b D s) (c : Cmd) (hc : CmdBd c) :
    Calls Try.prog 153 #[.pointer (some ⟨p, 0, none⟩), (.agg #[.int .i64 c.kind, .string c.key, .string c.val, .string c.old, .int .i64 c.rev, .int .i64 c.ses, .int .i64 c.seq])] w fun e w' => e = .returned (.bool (s.act c).1) ∧ Chg w w' p b D (s.act c).2 := by
  obtain ⟨c0, c1, c2, cf⟩ := st_cells h.blk
  have H : Hid (StoreAt w p b D s) := h
  have HC : Hid (CmdBd c) := hc
  obtain ⟨hd, hhd, hho⟩ := h.map.hist c.key
  obtain ⟨ah, caph, hah⟩ := hho.len
  rw [List.length_map] at hah
  subst hah
  have hblt := h.map.map.lt
  have hplt : p < w.heap.size := (Array.getElem?_eq_some_iff.1 h.blk).1
  obtain ⟨es, clock, hb5, hF, hs5, hD5⟩ := h.map.map
  have hlook : ∀ w' : World, w'.heap[b]? = some (.map es clock) → (Instr.lookup 136 (.map (some b)) (.string c.key) false).run Try.prog w' = .ok (.slice ah (s.vers c.key).length caph) w' := by
    intro w' hb'
    have ho : w'.ownsMap Try.prog 9 rawElem b (Maps.size D) D := ⟨es, clock, hb', hF, hs5, hD5⟩
    obtain ⟨v, ps, hrun, hraw⟩ := ho.lookup strKeyed Try.underlying136 (z := nilS) (by kernel_rfl) (zd := .held nilS) (zp := []) rfl (key_of c.key (by have := hc.key; unfold maxLen; omega))
    have hv : D.atKey (kl c.key) (.held nilS) = .held v := by have := (rawElem_inv hraw).1; injection this with this _
    rw [hrun, hdAt_one (hv : hdAt D c.key v) hhd]
  have HLK : Hid (∀ w' : World, w'.heap[b]? = some (.map es clock) → (Instr.lookup 136 (.map (some b)) (.string c.key) false).run Try.prog w' = .ok (.slice ah (s.vers c.key).length caph) w') := hlook
  have hlen : (s.vers c.key).length ≤ 1000000000000 := by have := h.good.len c.key; omega
  have HL : Hid ((s.vers c.key).length ≤ 1000000000000) := hlen
  obtain ⟨now, hnow⟩ : ∃ now, atV (s.vers c.key) s.rev = now := ⟨_, rfl⟩
  have HN : Hid (atV (s.vers c.key) s.rev = now) := hnow
  have hat : ∀ w' : World, (∀ x, x < w.heap.size → w'.heap[x]? = w.heap[x]?) → Calls Try.prog 74 #[.slice ah (s.vers c.key).length caph, .int .i64 s.rev] w' fun e w'' => e = .returned (.agg #[.int .i64 now.rev, .string now.val, .bool now.gone]) ∧ Below w'.heap.size w' w'' := fun w' hw => hnow ▸ histAt w' ah caph (s.vers c.key) s.rev hlen ((hho.keep fun k hk => hw k (hho.lt hk)).reads) (h.good.asc c.key)
  have HAT : Hid (∀ w' : World, (∀ x, x < w.heap.size → w'.heap[x]? = w.heap[x]?) → Calls Try.prog 74 #[.slice ah (s.vers c.key).length caph, .int .i64 s.rev] w' fun e w'' => e = .returned (.agg #[.int .i64 now.rev, .string now.val, .bool now.gone]) ∧ Below w'.heap.size w' w'') := hat
  clear hnow h hc hho hhd hF hs5 hD5 hlook hlen hat
  go_enter Try.func153, Try.ntmps153
  go_wp2_with fail
  refine world_any (F := fun w4 => (∀ x, x < w.heap.size → w4.heap[x]? = w.heap[x]?) ∧ Below w.heap.size w w4 ∧ w4.heap[w.heap.size]? = some (.cells #[.int .i64 c.kind, .string c.key, .string c.val, .string c.old, .int .i64 c.rev, .int .i64 c.ses, .int .i64 c.seq] 23)) ⟨fun x hx => Below.heap_alloc _ _ _ hx, Gr.alloc (Below.refl _ _) _, heap_alloc_new _ _⟩ ?_
  rintro w4 ⟨hk4, hb4, hq4⟩
  have hlk1 := HLK.out w4.drew ((hk4 b hblt).trans hb5)
  have hlk2 := fun o => HLK.out (w4.alloc o).drew (Hp.alloc ((hk4 b hblt).trans hb5) o)
  have e0 : w4.cell? ⟨p, 0, none⟩ = some (.int .i64 s.rev) := (World.cell?_of_block (w := w) (hk4 p hplt)).trans c0
  have e2 : w4.cell? ⟨p, 2, none⟩ = some (.map (some b)) := (World.cell?_of_block (w := w) (hk4 p hplt)).trans c2
  have q1 : w4.cell? ⟨w.heap.size, 1, none⟩ = some (.string c.key) := by simp only [World.cell?, hq4]; rfl
  have hs4 : w.heap.size < w4.heap.size := (Array.getElem?_eq_some_iff.1 hq4).1
  have ep : p < w4.heap.size := by omega
  have HA0 : Hid (∀ x, x < w.heap.size → w4.drew.heap[x]? = w.heap[x]?) := hk4
  have HA1 : Hid (∀ o x, x < w.heap.size → (w4.alloc o).drew.heap[x]? = w.heap[x]?) := fun o x hx => (keepA1 w4 _ x (Nat.lt_trans hx hs4)).trans (hk4 x hx)
  have HQ4 : Hid (w4.heap[w.heap.size]? = some (.cells #[.int .i64 c.kind, .string c.key, .string c.val, .string c.old, .int .i64 c.rev, .int .i64 c.ses, .int .i64 c.seq] 23)) := hq4
  have HB4 : Hid (Below w.heap.size w w4) := hb4
  clear c0 c1 c2 cf hk4 hb4 hq4
  refine wp_joinQ (fa := fun q => { tmps := #[.pointer (some ⟨p, 0, none⟩), (.agg #[.int .i64 c.kind, .string c.key, .string c.val, .string c.old, .int .i64 c.rev, .int .i64 c.ses, .int .i64 c.seq]), undef, .pointer (some ⟨w.heap.size, 0, none⟩), .bool false, .pointer (some ⟨q, 0, none⟩), .pointer (some ⟨p, 0, none⟩), .pointer (some ⟨p, 0, none⟩), .pointer (some ⟨p, 2, none⟩), .map (some b), .pointer (some ⟨w.heap.size, 1, none⟩), .string c.key, .slice ah (s.vers c.key).length caph, .pointer (some ⟨p, 0, none⟩), .pointer (some ⟨p, 0, none⟩), .pointer (some ⟨p, 0, none⟩), .int .i64 s.rev, .agg #[.int .i64 now.rev, .string now.val, .bool now.gone], undef, undef, undef, undef, undef, undef, undef, undef, undef, undef, undef, undef, undef, undef, undef, undef, undef, undef, undef, undef, undef, undef, undef, undef, undef, undef, undef, undef, undef, undef, undef, undef, undef, undef, undef, undef, undef, undef, undef, undef, undef, undef, undef, undef, undef, undef, undef, undef, undef, undef], defers := [] }) (F := fun q w5 => Below w4.heap.size w4 w5 ∧ w4.heap.size ≤ q ∧ w5.heap[q]? = some (.cells #[.int .i64 now.rev, .string now.val, .bool now.gone] 158)) ?h1 ?h2
  case h1 =>
    go_region_with (go_at_call 74; (first | with_reducible refine Calls.mono (HAT.out _ HA0.out) ?_ | with_reducible refine Calls.mono (HAT.out _ (HA1.out _)) ?_); rintro e w1 ⟨rfl, hb1⟩; obtain ⟨x1, rfl⟩ := Below.ext hb1; clear hb1)
    all_goals first
      | exact ⟨w4.heap.size, rfl, (by repeat (first | exact Below.refl _ _ | assumption | with_reducible refine below_drewN ?_ _ | refine Gr.ext ?_ _ | refine Gr.alloc ?_ _ | refine Gr.drew ?_ | (refine Gr.set ?_ (by first | (simp; done) | (simp; omega)) _))), Nat.le_refl _, (by repeat (first | with_reducible assumption | (with_reducible refine Hp.new ?_; (first | rfl | (simp [go_sem]; done) | (simp [go_sem]; omega)); done) | with_reducible refine Hp.alloc ?_ _ | with_reducible refine Hp.ext ?_ _ | with_reducible refine Hp.drew ?_ | (with_reducible refine Hp.set ?_ (by simp; omega) _)))⟩
      | exact ⟨w4.heap.size + x1.new.size, rfl, (by repeat (first | exact Below.refl _ _ | assumption | with_reducible refine below_drewN ?_ _ | refine Gr.ext ?_ _ | refine Gr.alloc ?_ _ | refine Gr.drew ?_ | (refine Gr.set ?_ (by first | (simp; done) | (simp; omega)) _))), Nat.le_add_right _ _, (by repeat (first | with_reducible assumption | (with_reducible refine Hp.new ?_; (first | rfl | (simp [go_sem]; done) | (simp [go_sem]; omega)); done) | with_reducible refine Hp.alloc ?_ _ | with_reducible refine Hp.ext ?_ _ | with_reducible refine Hp.drew ?_ | (with_reducible refine Hp.set ?_ (by simp; omega) _)))⟩
  case h2 =>
    rintro q w5 ⟨hb5', hq, hc5⟩
    have hB5 : Below w.heap.size w w5 := HB4.out.trans (hb5'.mono (by omega))
    have hq5 := (hb5'.block _ hs4).trans HQ4.out
    have k0 : w5.cell? ⟨w.heap.size, 0, none⟩ = some (.int .i64 c.kind) := by simp only [World.cell?, hq5]; rfl
    have k1 : w5.cell? ⟨w.heap.size, 1, none⟩ = some (.string c.key) := by simp only [World.cell?, hq5]; rfl
    have k2 : w5.cell? ⟨w.heap.size, 2, none⟩ = some (.string c.val) := by simp only [World.cell?, hq5]; rfl
    have k3 : w5.cell? ⟨w.heap.size, 3, none⟩ = some (.string c.old) := by simp only [World.cell?, hq5]; rfl
    have k4 : w5.cell? ⟨w.heap.size, 4, none⟩ = some (.int .i64 c.rev) := by simp only [World.cell?, hq5]; rfl
    have n0 : w5.cell? ⟨q, 0, none⟩ = some (.int .i64 now.rev) := by simp only [World.cell?, hc5]; rfl
    have n1 : w5.cell? ⟨q, 1, none⟩ = some (.string now.val) := by simp only [World.cell?, hc5]; rfl
    have n2 : w5.cell? ⟨q, 2, none⟩ = some (.bool now.gone) := by simp only [World.cell?, hc5]; rfl
    have hs5 : w.heap.size < w5.heap.size := (Array.getElem?_eq_some_iff.1 hq5).1
    have hq5s : q < w5.heap.size := (Array.getElem?_eq_some_iff.1 hc5).1
    have HLAY : Hid (∀ (W : World) (val : ByteArray) (gone : Bool), val.size ≤ 8 → Below w.heap.size w W → Calls Try.prog 165 #[.pointer (some ⟨p, 0, none⟩), .string c.key, .agg #[.int .i64 0, .string val, .bool gone]] W fun e w' => e = .returned (.bool (s.tryLay c.key val gone).1) ∧ Hid (Chg w w' p b D (s.tryLay c.key val gone).2)) := by
      intro W val gone hv hW
      have hsz := hW.size
      have hS : StoreAt W p b D s := ⟨by rw [hW.block p (Array.getElem?_eq_some_iff.1 H.out.blk).1]; exact H.out.blk, H.out.map.keep fun x hx => hW.block x (H.out.map.foot_lt hx), H.out.good, H.out.sz⟩
      refine (tryLay W p b D s hS c.key val gone 0 (by have := HC.out.key; omega) (by omega)).mono ?_
      rintro e w6 ⟨he, D', h1, h2, h3⟩
      exact ⟨he, D', h1, fun x hx => (h2 x hx).imp id fun h => by omega, (World.turned.of_below hW _).trans h3 fun _ _ h => h⟩
    obtain ⟨rr, hrr⟩ : ∃ rr : Bool × St, rr = (if (s.floor : Int) < c.rev ∧ c.rev ≤ s.rev then (true, s.raise c.rev.toNat) else (false, s)) := ⟨_, rfl⟩
    have HRR : Hid (rr = (if (s.floor : Int) < c.rev ∧ c.rev ≤ s.rev then (true, s.raise c.rev.toNat) else (false, s))) := hrr
    have HRAISE : Hid (∀ (W : World), Below w.heap.size w W → Calls Try.prog 166 #[.pointer (some ⟨p, 0, none⟩), .int .i64 c.rev] W fun e w' => e = .returned (.bool rr.1) ∧ Hid (Chg w w' p b D rr.2)) := by
      intro W hW
      have hsz := hW.size
      have hS : StoreAt W p b D s := ⟨by rw [hW.block p (Array.getElem?_eq_some_iff.1 H.out.blk).1]; exact H.out.blk, H.out.map.keep fun x hx => hW.block x (H.out.map.foot_lt hx), H.out.good, H.out.sz⟩
      rw [hrr]
      refine (tryRaise W p b D s hS c.rev).mono ?_
      rintro e w6 ⟨he, D', h1, h2, h3⟩
      exact ⟨he, D', h1, fun x hx => (h2 x hx).imp id fun h => by omega, (World.turned.of_below hW _).trans h3 fun _ _ h => h⟩
    clear hrr
    have hkind : c.kind = 0 ∨ c.kind = 1 ∨ c.kind = 2 ∨ c.kind = 3 ∨ c.kind = 4 := by have := HC.out.k0; have := HC.out.k4; omega
    have HVAL : Hid (c.val.size ≤ 8) := HC.out.val
    have HNUL : Hid ((⟨#[]⟩ : ByteArray).size ≤ 8) := by show _ ≤ _; decide
    clear hb5' hq5 hc5 hlk1 hlk2 e0 e2 q1 hs4 ep HA0 HA1 HQ4 HB4 HLK HL HAT hb5 hblt hplt
    rcases hkind with hk | hk | hk | hk | hk
    · have HK : Hid (c.kind = 0) := hk
      rw [hk] at k0
      clear hk
      go_wp2_with fail
      go_ret
      refine ⟨?_, ?_⟩
      · simp [St.act, HK.out]
      · have : (s.act c).2 = s := by simp [St.act, HK.out]
        rw [this]; exact Chg.refl' H.out hB5
    · have HK : Hid (s.act c = s.tryLay c.key c.val false) := by show _ = _; simp [St.act, hk]
      rw [hk] at k0
      clear hk
      go_wp2_with (go_at_call 165; refine Calls.mono (HLAY.out _ _ _ HVAL.out (by repeat (first | exact Below.refl _ _ | assumption | with_reducible refine below_drewN ?_ _ | refine Gr.ext ?_ _ | refine Gr.alloc ?_ _ | refine Gr.drew ?_ | (refine Gr.set ?_ (by first | (simp; done) | (simp; omega)) _)))) ?_; rintro e w6 ⟨rfl, hg⟩)
      go_ret
      exact ⟨by rw [HK.out]; rfl, by rw [HK.out]; exact hg.out⟩
    · have HK : Hid (s.act c = if now.gone = false then s.tryLay c.key ⟨#[]⟩ true else (false, s)) := by show _ = _; simp [St.act, hk, HN.out]
      rw [hk] at k0
      clear hk
      rcases hgone : now.gone with _ | _
      · rw [hgone] at n2 HK
        go_wp2_with (go_at_call 165; refine Calls.mono (HLAY.out _ _ _ HNUL.out (by repeat (first | exact Below.refl _ _ | assumption | with_reducible refine below_drewN ?_ _ | refine Gr.ext ?_ _ | refine Gr.alloc ?_ _ | refine Gr.drew ?_ | (refine Gr.set ?_ (by first | (simp; done) | (simp; omega)) _)))) ?_; rintro e w6 ⟨rfl, hg⟩)
        go_ret
        exact ⟨by rw [HK.out]; rfl, by rw [HK.out]; exact hg.out⟩
      · rw [hgone] at n2 HK
        go_wp2_with fail
        go_ret
        refine ⟨by rw [HK.out]; rfl, ?_⟩
        rw [HK.out]; exact Chg.refl' H.out hB5
    · have HK : Hid (s.act c = if now.gone = false ∧ (now.val == c.old) = true then s.tryLay c.key c.val false else (false, s)) := by show _ = _; simp [St.act, hk, HN.out, beq_bytes]
      rw [hk] at k0
      clear hk
      rcases hgone : now.gone with _ | _
      · rw [hgone] at n2 HK
        rcases hval : (now.val == c.old) with _ | _
        · rw [hval] at HK
          rw [beq_toListBytes] at hval
          have hvp : ¬ now.val.toList = c.old.toList := by simpa using hval
          go_wp2_with fail
          go_ret
          refine ⟨by rw [HK.out]; simp, ?_⟩
          rw [HK.out]; simp; exact Chg.refl' H.out hB5
        · rw [hval] at HK
          rw [beq_toListBytes] at hval
          have hvp : now.val.toList = c.old.toList := by simpa using hval
          go_wp2_with (go_at_call 165; refine Calls.mono (HLAY.out _ _ _ HVAL.out (by repeat (first | exact Below.refl _ _ | assumption | with_reducible refine below_drewN ?_ _ | refine Gr.ext ?_ _ | refine Gr.alloc ?_ _ | refine Gr.drew ?_ | (refine Gr.set ?_ (by first | (simp; done) | (simp; omega)) _)))) ?_; rintro e w6 ⟨rfl, hg⟩)
          go_ret
          exact ⟨by rw [HK.out]; simp, by rw [HK.out]; simpa using hg.out⟩
      · rw [hgone] at n2 HK
        go_wp2_with fail
        go_ret
        refine ⟨by rw [HK.out]; simp, ?_⟩
        rw [HK.out]; simp; exact Chg.refl' H.out hB5
    · have HK : Hid (s.act c = if (s.floor : Int) < c.rev ∧ c.rev ≤ s.rev then (true, s.raise c.rev.toNat) else (false, s)) := by show _ = _; simp [St.act, hk]
      rw [hk] at k0
      clear hk
      go_wp2_with (go_at_call 166; refine Calls.mono (HRAISE.out _ (by repeat (first | exact Below.refl _ _ | assumption | with_reducible refine below_drewN ?_ _ | refine Gr.ext ?_ _ | refine Gr.alloc ?_ _ | refine Gr.drew ?_ | (refine Gr.set ?_ (by first | (simp; done) | (simp; omega)) _)))) ?_; rintro e w6 ⟨rfl, hg⟩)
      go_ret
      exact ⟨by rw [HK.out, ← HRR.out]; rfl, by rw [HK.out, ← HRR.out]; exact hg.out⟩
end Go.Proofs.Ytcbbnmodjnnbeaa
