/-
  No cell of these rows narrows 'for every input' (looked for: loops, veiled, ifaces, maps, wideKeys, modest, calm, conditions, laid).
  DERIVED. THE GIVEN ROWS OF THIS SEAT. 9 by the template 'for every input the law returns true; each argument reads behind the call as it read before'; 0 by the template 'total and deterministic' (their statements: YtcbbnmodjnnbeaaTotals.lean).
  GIVEN WITH THE SEED: the statements are not yours to turn. If you find one false, say at which input.
  Laid BY PROGRAM, IN A SANDBOX (cutbox-rows.mjs): the forced cells as the released guide's own fill.sh prints them over the translation ea85172d11114c63… (all of the seat's roots in one cut). By AI agents, Wed Nov 11 2026. No macro, syntax, notation, axiom, sorry.
-/
import Derived.Test.YtcbbnmodjnnbeaaChecked
import GoSem.Claim
import GoSem.ClaimJoined
import GoSem.ClaimMapViews
import Derived.JoinedTies
import Derived.KernelRfl
namespace Go.Proofs.Ytcbbnmodjnnbeaa
/- THE CELL 'sum', in the pinned program and in every row, IS THE sha256 OF THE DUMP (.gsa) THAT YtcbbnmodjnnbeaaProg.lean LOADS. Nothing in Lean hashes anything: it is a label: what it is worth is what the hold of that sum in a sandbox is worth. -/
noncomputable def Try.pinned : Pinned := { name := "ytcbbnmodjnnbeaa", sum := "ea85172d11114c63ecb2cc7838cf2acb71263535f6eea9b5e9adf1a16ca15a7b", checked := Try.checked }
namespace Rows
def none {H : Type} : Left H := { results := [], args := [] }

/-- 'conclavelaw.Codes': WHATEVER THE INPUT: true; the input reads as it did. -/
def codesSpec : ChangeSpec := { name := "codes", fn := fun _ => fun
  | [d1, d2] => { results := [.lit (.bool true)], args := [d1, d2] }
  | _ => none }
def codesRow : OpenClaim := { program := "ytcbbnmodjnnbeaa", sum := "ea85172d11114c63ecb2cc7838cf2acb71263535f6eea9b5e9adf1a16ca15a7b", func := "conclave/conclavelaw.Codes", spec := "codes", apart := false }
def CodesSaid : Prop := codesRow.holds Try.pinned (OpenSpec.ofChange codesSpec)

/-- ITS FALSE NEIGHBOUR: 'it returns false'. Refute it at one input. -/
def codesWrong : ChangeSpec := { name := "codes", fn := fun _ => fun
  | [d1, d2] => { results := [.lit (.bool false)], args := [d1, d2] }
  | _ => none }
def CodesWrongFalsely : Prop := codesRow.holds Try.pinned (OpenSpec.ofChange codesWrong)

/-- 'conclavelaw.Scans': WHATEVER THE INPUT: true; the input reads as it did. -/
def scansSpec : ChangeSpec := { name := "scans", fn := fun _ => fun
  | [d] => { results := [.lit (.bool true)], args := [d] }
  | _ => none }
def scansRow : OpenClaim := { program := "ytcbbnmodjnnbeaa", sum := "ea85172d11114c63ecb2cc7838cf2acb71263535f6eea9b5e9adf1a16ca15a7b", func := "conclave/conclavelaw.Scans", spec := "scans", apart := false }
def ScansSaid : Prop := scansRow.holds Try.pinned (OpenSpec.ofChange scansSpec)

/-- ITS FALSE NEIGHBOUR: 'it returns false'. Refute it at one input. -/
def scansWrong : ChangeSpec := { name := "scans", fn := fun _ => fun
  | [d] => { results := [.lit (.bool false)], args := [d] }
  | _ => none }
def ScansWrongFalsely : Prop := scansRow.holds Try.pinned (OpenSpec.ofChange scansWrong)

/-- 'conclavelaw.Back': WHATEVER THE INPUT: true; the input reads as it did. -/
def backSpec : ChangeSpec := { name := "back", fn := fun _ => fun
  | [d1, d2, d3, d4] => { results := [.lit (.bool true)], args := [d1, d2, d3, d4] }
  | _ => none }
def backRow : OpenClaim := { program := "ytcbbnmodjnnbeaa", sum := "ea85172d11114c63ecb2cc7838cf2acb71263535f6eea9b5e9adf1a16ca15a7b", func := "conclave/conclavelaw.Back", spec := "back", apart := false }
def BackSaid : Prop := backRow.holds Try.pinned (OpenSpec.ofChange backSpec)

/-- ITS FALSE NEIGHBOUR: 'it returns false'. Refute it at one input. -/
def backWrong : ChangeSpec := { name := "back", fn := fun _ => fun
  | [d1, d2, d3, d4] => { results := [.lit (.bool false)], args := [d1, d2, d3, d4] }
  | _ => none }
def BackWrongFalsely : Prop := backRow.holds Try.pinned (OpenSpec.ofChange backWrong)

/-- 'conclavelaw.Stores': WHATEVER THE INPUT: true; the input reads as it did. -/
def storesSpec : ChangeSpec := { name := "stores", fn := fun _ => fun
  | [d1, d2] => { results := [.lit (.bool true)], args := [d1, d2] }
  | _ => none }
def storesRow : OpenClaim := { program := "ytcbbnmodjnnbeaa", sum := "ea85172d11114c63ecb2cc7838cf2acb71263535f6eea9b5e9adf1a16ca15a7b", func := "conclave/conclavelaw.Stores", spec := "stores", unfollowed := true, recurses := true, apart := false }
def StoresSaid : Prop := storesRow.holds Try.pinned (OpenSpec.ofChange storesSpec)

/-- ITS FALSE NEIGHBOUR: 'it returns false'. Refute it at one input. -/
def storesWrong : ChangeSpec := { name := "stores", fn := fun _ => fun
  | [d1, d2] => { results := [.lit (.bool false)], args := [d1, d2] }
  | _ => none }
def StoresWrongFalsely : Prop := storesRow.holds Try.pinned (OpenSpec.ofChange storesWrong)

/-- 'conclavelaw.Past': WHATEVER THE INPUT: true; the input reads as it did. -/
def pastSpec : ChangeSpec := { name := "past", fn := fun _ => fun
  | [d] => { results := [.lit (.bool true)], args := [d] }
  | _ => none }
def pastRow : OpenClaim := { program := "ytcbbnmodjnnbeaa", sum := "ea85172d11114c63ecb2cc7838cf2acb71263535f6eea9b5e9adf1a16ca15a7b", func := "conclave/conclavelaw.Past", spec := "past", unfollowed := true, recurses := true, apart := false }
def PastSaid : Prop := pastRow.holds Try.pinned (OpenSpec.ofChange pastSpec)

/-- ITS FALSE NEIGHBOUR: 'it returns false'. Refute it at one input. -/
def pastWrong : ChangeSpec := { name := "past", fn := fun _ => fun
  | [d] => { results := [.lit (.bool false)], args := [d] }
  | _ => none }
def PastWrongFalsely : Prop := pastRow.holds Try.pinned (OpenSpec.ofChange pastWrong)

/-- 'conclavelaw.Twice': WHATEVER THE INPUT: true; the input reads as it did. -/
def twiceSpec : ChangeSpec := { name := "twice", fn := fun _ => fun
  | [d1, d2, d3] => { results := [.lit (.bool true)], args := [d1, d2, d3] }
  | _ => none }
def twiceRow : OpenClaim := { program := "ytcbbnmodjnnbeaa", sum := "ea85172d11114c63ecb2cc7838cf2acb71263535f6eea9b5e9adf1a16ca15a7b", func := "conclave/conclavelaw.Twice", spec := "twice", unfollowed := true, recurses := true, apart := false }
def TwiceSaid : Prop := twiceRow.holds Try.pinned (OpenSpec.ofChange twiceSpec)

/-- ITS FALSE NEIGHBOUR: 'it returns false'. Refute it at one input. -/
def twiceWrong : ChangeSpec := { name := "twice", fn := fun _ => fun
  | [d1, d2, d3] => { results := [.lit (.bool false)], args := [d1, d2, d3] }
  | _ => none }
def TwiceWrongFalsely : Prop := twiceRow.holds Try.pinned (OpenSpec.ofChange twiceWrong)

/-- 'conclavelaw.Saved': WHATEVER THE INPUT: true; the input reads as it did. -/
def savedSpec : ChangeSpec := { name := "saved", fn := fun _ => fun
  | [d1, d2, d3] => { results := [.lit (.bool true)], args := [d1, d2, d3] }
  | _ => none }
def savedRow : OpenClaim := { program := "ytcbbnmodjnnbeaa", sum := "ea85172d11114c63ecb2cc7838cf2acb71263535f6eea9b5e9adf1a16ca15a7b", func := "conclave/conclavelaw.Saved", spec := "saved", unfollowed := true, recurses := true, apart := false }
def SavedSaid : Prop := savedRow.holds Try.pinned (OpenSpec.ofChange savedSpec)

/-- ITS FALSE NEIGHBOUR: 'it returns false'. Refute it at one input. -/
def savedWrong : ChangeSpec := { name := "saved", fn := fun _ => fun
  | [d1, d2, d3] => { results := [.lit (.bool false)], args := [d1, d2, d3] }
  | _ => none }
def SavedWrongFalsely : Prop := savedRow.holds Try.pinned (OpenSpec.ofChange savedWrong)

/-- 'conclavelaw.Wals': WHATEVER THE INPUT: true; the input reads as it did. -/
def walsSpec : ChangeSpec := { name := "wals", fn := fun _ => fun
  | [d] => { results := [.lit (.bool true)], args := [d] }
  | _ => none }
def walsRow : OpenClaim := { program := "ytcbbnmodjnnbeaa", sum := "ea85172d11114c63ecb2cc7838cf2acb71263535f6eea9b5e9adf1a16ca15a7b", func := "conclave/conclavelaw.Wals", spec := "wals", unfollowed := true, recurses := true, apart := false }
def WalsSaid : Prop := walsRow.holds Try.pinned (OpenSpec.ofChange walsSpec)

/-- ITS FALSE NEIGHBOUR: 'it returns false'. Refute it at one input. -/
def walsWrong : ChangeSpec := { name := "wals", fn := fun _ => fun
  | [d] => { results := [.lit (.bool false)], args := [d] }
  | _ => none }
def WalsWrongFalsely : Prop := walsRow.holds Try.pinned (OpenSpec.ofChange walsWrong)

/-- 'conclavelaw.Lasting': WHATEVER THE INPUT: true; the input reads as it did. -/
def lastingSpec : ChangeSpec := { name := "lasting", fn := fun _ => fun
  | [d1, d2] => { results := [.lit (.bool true)], args := [d1, d2] }
  | _ => none }
def lastingRow : OpenClaim := { program := "ytcbbnmodjnnbeaa", sum := "ea85172d11114c63ecb2cc7838cf2acb71263535f6eea9b5e9adf1a16ca15a7b", func := "conclave/conclavelaw.Lasting", spec := "lasting", unfollowed := true, recurses := true, apart := false }
def LastingSaid : Prop := lastingRow.holds Try.pinned (OpenSpec.ofChange lastingSpec)

/-- ITS FALSE NEIGHBOUR: 'it returns false'. Refute it at one input. -/
def lastingWrong : ChangeSpec := { name := "lasting", fn := fun _ => fun
  | [d1, d2] => { results := [.lit (.bool false)], args := [d1, d2] }
  | _ => none }
def LastingWrongFalsely : Prop := lastingRow.holds Try.pinned (OpenSpec.ofChange lastingWrong)

/- THE SECOND FORM. 'bulk': how many values and letters a reading holds, each counted each time it is reached (what is shared counts as often as it is met; a slice's spare places count too). A statement '..UptoSaid' is the law's where the arguments, and the package variables that the reading takes, are together of bulk at most 1048576: NARROWER than '..Said'. Prove '..Said' where nothing that the law and all that it calls make is longer than what came in: it says more and counts as full. Else prove '..UptoSaid'. A law counts once. -/
mutual
def uptoBulk {H : Type} : DataW H → Nat
  | .lit (.string bytes) => bytes.length + 1
  | .lit _ => 1
  | .nil => 1
  | .ptr d => uptoBulk d + 1
  | .slice elems spare => uptoBulkAll elems + uptoBulkAll spare + 1
  | .agg parts => uptoBulkAll parts + 1
  | .iface _ d => uptoBulk d + 1
  | .map entries => uptoBulkEntries entries + 1
  | .held _ => 1
def uptoBulkAll {H : Type} : List (DataW H) → Nat
  | [] => 0
  | d :: r => uptoBulk d + uptoBulkAll r
def uptoBulkEntries {H : Type} : List (Lit × DataW H) → Nat
  | [] => 0
  | x :: r => uptoBulkEntry x + uptoBulkEntries r
def uptoBulkEntry {H : Type} : Lit × DataW H → Nat
  | (.string bytes, d) => bytes.length + uptoBulk d + 1
  | (_, d) => uptoBulk d + 1
 end
def uptoSmall : (H : Type) → List (DataW H) → Bool := fun _ ds => decide (uptoBulkAll ds ≤ 1048576)
def OpenSpec.upto (s : _root_.Go.ChangeSpec) : _root_.Go.OpenSpec := { _root_.Go.OpenSpec.ofChange s with cond := some uptoSmall }

/-- 'conclavelaw.Codes', WHERE WHAT IT READS IS OF BULK AT MOST 1048576: true; the input reads as it did. -/
def codesUptoRow : OpenClaim := { program := "ytcbbnmodjnnbeaa", sum := "ea85172d11114c63ecb2cc7838cf2acb71263535f6eea9b5e9adf1a16ca15a7b", func := "conclave/conclavelaw.Codes", spec := "codes", apart := false, narrowed := true }
def CodesUptoSaid : Prop := codesUptoRow.holds Try.pinned (OpenSpec.upto codesSpec)

/-- 'conclavelaw.Scans', WHERE WHAT IT READS IS OF BULK AT MOST 1048576: true; the input reads as it did. -/
def scansUptoRow : OpenClaim := { program := "ytcbbnmodjnnbeaa", sum := "ea85172d11114c63ecb2cc7838cf2acb71263535f6eea9b5e9adf1a16ca15a7b", func := "conclave/conclavelaw.Scans", spec := "scans", apart := false, narrowed := true }
def ScansUptoSaid : Prop := scansUptoRow.holds Try.pinned (OpenSpec.upto scansSpec)

/-- 'conclavelaw.Back', WHERE WHAT IT READS IS OF BULK AT MOST 1048576: true; the input reads as it did. -/
def backUptoRow : OpenClaim := { program := "ytcbbnmodjnnbeaa", sum := "ea85172d11114c63ecb2cc7838cf2acb71263535f6eea9b5e9adf1a16ca15a7b", func := "conclave/conclavelaw.Back", spec := "back", apart := false, narrowed := true }
def BackUptoSaid : Prop := backUptoRow.holds Try.pinned (OpenSpec.upto backSpec)

/-- 'conclavelaw.Stores', WHERE WHAT IT READS IS OF BULK AT MOST 1048576: true; the input reads as it did. -/
def storesUptoRow : OpenClaim := { program := "ytcbbnmodjnnbeaa", sum := "ea85172d11114c63ecb2cc7838cf2acb71263535f6eea9b5e9adf1a16ca15a7b", func := "conclave/conclavelaw.Stores", spec := "stores", unfollowed := true, recurses := true, apart := false, narrowed := true }
def StoresUptoSaid : Prop := storesUptoRow.holds Try.pinned (OpenSpec.upto storesSpec)

/-- 'conclavelaw.Past', WHERE WHAT IT READS IS OF BULK AT MOST 1048576: true; the input reads as it did. -/
def pastUptoRow : OpenClaim := { program := "ytcbbnmodjnnbeaa", sum := "ea85172d11114c63ecb2cc7838cf2acb71263535f6eea9b5e9adf1a16ca15a7b", func := "conclave/conclavelaw.Past", spec := "past", unfollowed := true, recurses := true, apart := false, narrowed := true }
def PastUptoSaid : Prop := pastUptoRow.holds Try.pinned (OpenSpec.upto pastSpec)

/-- 'conclavelaw.Twice', WHERE WHAT IT READS IS OF BULK AT MOST 1048576: true; the input reads as it did. -/
def twiceUptoRow : OpenClaim := { program := "ytcbbnmodjnnbeaa", sum := "ea85172d11114c63ecb2cc7838cf2acb71263535f6eea9b5e9adf1a16ca15a7b", func := "conclave/conclavelaw.Twice", spec := "twice", unfollowed := true, recurses := true, apart := false, narrowed := true }
def TwiceUptoSaid : Prop := twiceUptoRow.holds Try.pinned (OpenSpec.upto twiceSpec)

/-- 'conclavelaw.Saved', WHERE WHAT IT READS IS OF BULK AT MOST 1048576: true; the input reads as it did. -/
def savedUptoRow : OpenClaim := { program := "ytcbbnmodjnnbeaa", sum := "ea85172d11114c63ecb2cc7838cf2acb71263535f6eea9b5e9adf1a16ca15a7b", func := "conclave/conclavelaw.Saved", spec := "saved", unfollowed := true, recurses := true, apart := false, narrowed := true }
def SavedUptoSaid : Prop := savedUptoRow.holds Try.pinned (OpenSpec.upto savedSpec)

/-- 'conclavelaw.Wals', WHERE WHAT IT READS IS OF BULK AT MOST 1048576: true; the input reads as it did. -/
def walsUptoRow : OpenClaim := { program := "ytcbbnmodjnnbeaa", sum := "ea85172d11114c63ecb2cc7838cf2acb71263535f6eea9b5e9adf1a16ca15a7b", func := "conclave/conclavelaw.Wals", spec := "wals", unfollowed := true, recurses := true, apart := false, narrowed := true }
def WalsUptoSaid : Prop := walsUptoRow.holds Try.pinned (OpenSpec.upto walsSpec)

/-- 'conclavelaw.Lasting', WHERE WHAT IT READS IS OF BULK AT MOST 1048576: true; the input reads as it did. -/
def lastingUptoRow : OpenClaim := { program := "ytcbbnmodjnnbeaa", sum := "ea85172d11114c63ecb2cc7838cf2acb71263535f6eea9b5e9adf1a16ca15a7b", func := "conclave/conclavelaw.Lasting", spec := "lasting", unfollowed := true, recurses := true, apart := false, narrowed := true }
def LastingUptoSaid : Prop := lastingUptoRow.holds Try.pinned (OpenSpec.upto lastingSpec)

end Rows
end Go.Proofs.Ytcbbnmodjnnbeaa
