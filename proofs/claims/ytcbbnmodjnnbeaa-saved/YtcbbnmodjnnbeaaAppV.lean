/- Flags, versions and sessions behind bytes. -/
import Derived.Test.YtcbbnmodjnnbeaaPack2
import Derived.Test.YtcbbnmodjnnbeaaBnd
import Derived.Deep.DeepMust
set_option linter.unusedSimpArgs false
set_option linter.unusedVariables false
namespace Go.Proofs.Ytcbbnmodjnnbeaa
open Go.RowKit

def flagL (b : Bool) : List UInt8 := [if b then 1 else 0]
theorem appendFlag (v : Value) (l : List UInt8) (x : Bool) (w : World) (base : Nat) (hown : OwnB w base v l) (hbase : base ≤ w.heap.size) (hl : l.length ≤ 1000000000000) :
    Calls Try.prog 124 #[v, .bool x] w fun e w' => ∃ v', e = .returned v' ∧ OwnB w' base v' (l ++ flagL x) ∧ Grew w w' v v' := by
  have ho : ∀ o, OwnB (w.alloc o) base v l := fun o => hown.alloc o
  clear hown
  have HE0 : Hid ((([0] : List UInt8).map byteV).toArray = #[.int .u8 (0 : Int)]) := rfl
  have HE1 : Hid ((([1] : List UInt8).map byteV).toArray = #[.int .u8 (1 : Int)]) := rfl
  cases x
  · go_enter Try.func124, Try.ntmps124
    go_wp2_with (at_builtin; refine wpB_new rfl _ _ rfl base v l rfl (ho _) _ _ 1 rfl rfl (new_cells HE0.out) (by simp only [List.length_cons, List.length_nil]; omega) (by simp; omega) ?_; intro v1 w1 ho1 hg1)
    go_ret
    exact ⟨v1, rfl, ho1, ((Grew.refl w v).alloc _).trans hg1⟩
  · go_enter Try.func124, Try.ntmps124
    go_wp2_with (at_builtin; refine wpB_new rfl _ _ rfl base v l rfl (ho _) _ _ 1 rfl rfl (new_cells HE1.out) (by simp only [List.length_cons, List.length_nil]; omega) (by simp; omega) ?_; intro v1 w1 ho1 hg1)
    go_ret
    exact ⟨v1, rfl, ho1, ((Grew.refl w v).alloc _).trans hg1⟩
def verL (key : ByteArray) (v : Ver) : List UInt8 := (be 1 key.size ++ key.data.toList) ++ be 3 v.rev ++ flagL v.gone ++ (be 1 v.val.size ++ v.val.data.toList)
set_option maxHeartbeats 1000000 in
theorem appendVersion (v : Value) (l : List UInt8) (key : ByteArray) (x : Ver) (w : World) (base : Nat) (hown : OwnB w base v l) (hbase : base ≤ w.heap.size) (hk : key.size ≤ 8) (hv : x.val.size ≤ 8) (hr : x.rev ≤ 1000000) (hl : l.length ≤ 1000000000) :
    Calls Try.prog 76 #[v, .string key, .agg #[.int .i64 x.rev, .string x.val, .bool x.gone]] w fun e w' => ∃ v', e = .returned v' ∧ OwnB w' base v' (l ++ verL key x) ∧ Grew w w' v v' := by
  have H : Hold w (w.alloc (.cells #[.int .i64 x.rev, .string x.val, .bool x.gone] 158)) base w.heap.size #[.int .i64 x.rev, .string x.val, .bool x.gone] 158 v v l := Hold.start hown hbase
  clear hown
  go_enter Try.func76, Try.ntmps76
  go_wp2_with (first | (go_at_call 124; go_must (refine (appendFlag _ _ _ _ base H.own H.hb (by (try simp only [flagL, List.length_append, List.length_cons, List.length_nil, be_length, len_data]); omega)).mono ?_; rintro e w1 ⟨v1, rfl, ho1, hg1⟩; have H := H.step ho1 hg1; have hk := H.cell; clear ho1 hg1)) | (go_at_call 75; go_must (refine (appendNumber _ _ _ _ base H.own H.hb (by omega) (by (try simp only [flagL, List.length_append, List.length_cons, List.length_nil, be_length, len_data]); omega)).mono ?_; rintro e w1 ⟨v1, rfl, ho1, hg1⟩; have H := H.step ho1 hg1; have hk := H.cell; clear ho1 hg1)) | (go_at_call 123; go_must (refine (appendText _ _ _ _ base H.own H.hb (by omega) (by (try simp only [flagL, List.length_append, List.length_cons, List.length_nil, be_length, len_data]); omega)).mono ?_; rintro e w1 ⟨v1, rfl, ho1, hg1⟩; have H := H.step ho1 hg1; have hk := H.cell; clear ho1 hg1)))
  go_ret
  exact ⟨v1, rfl, by have h := H.own; simpa only [verL, List.append_assoc] using h, H.G⟩
def sesL (x : Nat × Res) : List UInt8 := be 3 x.1 ++ flagL x.2.ok ++ be 3 x.2.rev.toNat
set_option maxHeartbeats 1000000 in
theorem appendSession (v : Value) (l : List UInt8) (x : Nat × Res) (w : World) (base : Nat) (hown : OwnB w base v l) (hbase : base ≤ w.heap.size) (hq : x.1 ≤ 1000000) (hr0 : 0 ≤ x.2.rev) (hr1 : x.2.rev ≤ 1000000) (hl : l.length ≤ 1000000000) :
    Calls Try.prog 77 #[v, .agg #[.int .i64 x.1, .bool x.2.ok, .int .i64 x.2.rev, .bool x.2.stale]] w fun e w' => ∃ v', e = .returned v' ∧ OwnB w' base v' (l ++ sesL x) ∧ Grew w w' v v' := by
  have H : Hold w (w.alloc (.cells #[.int .i64 x.1, .bool x.2.ok, .int .i64 x.2.rev, .bool x.2.stale] 138)) base w.heap.size #[.int .i64 x.1, .bool x.2.ok, .int .i64 x.2.rev, .bool x.2.stale] 138 v v l := Hold.start hown hbase
  clear hown
  go_enter Try.func77, Try.ntmps77
  go_wp2_with (first | (go_at_call 124; go_must (refine (appendFlag _ _ _ _ base H.own H.hb (by (try simp only [flagL, List.length_append, List.length_cons, List.length_nil, be_length, len_data]); omega)).mono ?_; rintro e w1 ⟨v1, rfl, ho1, hg1⟩; have H := H.step ho1 hg1; have hk := H.cell; clear ho1 hg1)) | (go_at_call 75; go_must (refine (appendNumberI _ _ _ _ base H.own H.hb (by omega) (by omega) (by (try simp only [flagL, List.length_append, List.length_cons, List.length_nil, be_length, len_data]); omega)).mono ?_; rintro e w1 ⟨v1, rfl, ho1, hg1⟩; have H := H.step ho1 hg1; have hk := H.cell; clear ho1 hg1)))
  go_ret
  exact ⟨v1, rfl, by have h := H.own; simpa only [sesL, Int.toNat_natCast, List.append_assoc] using h, H.G⟩
end Go.Proofs.Ytcbbnmodjnnbeaa
