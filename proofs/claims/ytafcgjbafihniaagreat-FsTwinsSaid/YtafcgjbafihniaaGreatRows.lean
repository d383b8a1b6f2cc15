/-
  No cell of these rows narrows 'for every input' (looked for: loops, veiled, ifaces, maps, wideKeys, modest, calm, conditions, laid).
  DERIVED. THE GIVEN ROWS OF THIS SEAT. 7 by the template 'for every input the law returns true; each argument reads behind the call as it read before'; 0 by the template 'total and deterministic' (their statements: YtafcgjbafihniaaGreatTotals.lean).
  GIVEN WITH THE SEED: the statements are not yours to turn. If you find one false, say at which input.
  Laid BY PROGRAM, IN A SANDBOX (cutbox-rows.mjs): the forced cells as the released guide's own fill.sh prints them over the translation 8ee5543546a7c405… (all of the seat's roots in one cut). By AI agents, Wed Nov 11 2026. No macro, syntax, notation, axiom, sorry.
-/
import Derived.Test.YtafcgjbafihniaaGreatChecked
import GoSem.Claim
import GoSem.ClaimJoined
import GoSem.ClaimMapViews
import Derived.JoinedTies
import Derived.KernelRfl
namespace Go.Proofs.YtafcgjbafihniaaGreat
/- THE CELL 'sum', in the pinned program and in every row, IS THE sha256 OF THE DUMP (.gsa) THAT YtafcgjbafihniaaGreatProg.lean LOADS. Nothing in Lean hashes anything: it is a label: what it is worth is what the hold of that sum in a sandbox is worth. -/
noncomputable def Tryz.pinned : Pinned := { name := "ytafcgjbafihniaagreat", sum := "8ee5543546a7c405edf17730d247d4d0343c516739c14072c9360140e1dc611c", checked := Tryz.checked }
namespace Rows
def none {H : Type} : Left H := { results := [], args := [] }

/-- 'lecternlaw01.FsDoes': WHATEVER THE INPUT: true; the input reads as it did. -/
def fsDoesSpec : ChangeSpec := { name := "fsDoes", fn := fun _ => fun
  | [d1, d2] => { results := [.lit (.bool true)], args := [d1, d2] }
  | _ => none }
def fsDoesRow : OpenClaim := { program := "ytafcgjbafihniaagreat", sum := "8ee5543546a7c405edf17730d247d4d0343c516739c14072c9360140e1dc611c", func := "lectern/lecternlaw01.FsDoes", spec := "fsDoes", inPlace := ["sync/atomic.AddInt64", "maps.clone", "sync/atomic.LoadInt64", "sync/atomic.StoreInt64"], unfollowed := true, recurses := true, apart := false }
def FsDoesSaid : Prop := fsDoesRow.holds Tryz.pinned (OpenSpec.ofChange fsDoesSpec)

/-- ITS FALSE NEIGHBOUR: 'it returns false'. Refute it at one input. -/
def fsDoesWrong : ChangeSpec := { name := "fsDoes", fn := fun _ => fun
  | [d1, d2] => { results := [.lit (.bool false)], args := [d1, d2] }
  | _ => none }
def FsDoesWrongFalsely : Prop := fsDoesRow.holds Tryz.pinned (OpenSpec.ofChange fsDoesWrong)

/-- 'lecternlaw01.FsReads': WHATEVER THE INPUT: true; the input reads as it did. -/
def fsReadsSpec : ChangeSpec := { name := "fsReads", fn := fun _ => fun
  | [d1, d2, d3, d4, d5] => { results := [.lit (.bool true)], args := [d1, d2, d3, d4, d5] }
  | _ => none }
def fsReadsRow : OpenClaim := { program := "ytafcgjbafihniaagreat", sum := "8ee5543546a7c405edf17730d247d4d0343c516739c14072c9360140e1dc611c", func := "lectern/lecternlaw01.FsReads", spec := "fsReads", inPlace := ["sync/atomic.AddInt64", "maps.clone", "sync/atomic.LoadInt64", "sync/atomic.StoreInt64"], unfollowed := true, recurses := true, apart := false }
def FsReadsSaid : Prop := fsReadsRow.holds Tryz.pinned (OpenSpec.ofChange fsReadsSpec)

/-- ITS FALSE NEIGHBOUR: 'it returns false'. Refute it at one input. -/
def fsReadsWrong : ChangeSpec := { name := "fsReads", fn := fun _ => fun
  | [d1, d2, d3, d4, d5] => { results := [.lit (.bool false)], args := [d1, d2, d3, d4, d5] }
  | _ => none }
def FsReadsWrongFalsely : Prop := fsReadsRow.holds Tryz.pinned (OpenSpec.ofChange fsReadsWrong)

/-- 'lecternlaw01.FsSynced': WHATEVER THE INPUT: true; the input reads as it did. -/
def fsSyncedSpec : ChangeSpec := { name := "fsSynced", fn := fun _ => fun
  | [d1, d2, d3] => { results := [.lit (.bool true)], args := [d1, d2, d3] }
  | _ => none }
def fsSyncedRow : OpenClaim := { program := "ytafcgjbafihniaagreat", sum := "8ee5543546a7c405edf17730d247d4d0343c516739c14072c9360140e1dc611c", func := "lectern/lecternlaw01.FsSynced", spec := "fsSynced", inPlace := ["sync/atomic.AddInt64", "maps.clone", "sync/atomic.LoadInt64", "sync/atomic.StoreInt64"], unfollowed := true, recurses := true, apart := false }
def FsSyncedSaid : Prop := fsSyncedRow.holds Tryz.pinned (OpenSpec.ofChange fsSyncedSpec)

/-- ITS FALSE NEIGHBOUR: 'it returns false'. Refute it at one input. -/
def fsSyncedWrong : ChangeSpec := { name := "fsSynced", fn := fun _ => fun
  | [d1, d2, d3] => { results := [.lit (.bool false)], args := [d1, d2, d3] }
  | _ => none }
def FsSyncedWrongFalsely : Prop := fsSyncedRow.holds Tryz.pinned (OpenSpec.ofChange fsSyncedWrong)

/-- 'lecternlaw01.FsPrefix': WHATEVER THE INPUT: true; the input reads as it did. -/
def fsPrefixSpec : ChangeSpec := { name := "fsPrefix", fn := fun _ => fun
  | [d1, d2, d3] => { results := [.lit (.bool true)], args := [d1, d2, d3] }
  | _ => none }
def fsPrefixRow : OpenClaim := { program := "ytafcgjbafihniaagreat", sum := "8ee5543546a7c405edf17730d247d4d0343c516739c14072c9360140e1dc611c", func := "lectern/lecternlaw01.FsPrefix", spec := "fsPrefix", inPlace := ["sync/atomic.AddInt64", "maps.clone", "sync/atomic.LoadInt64", "sync/atomic.StoreInt64"], unfollowed := true, recurses := true, apart := false }
def FsPrefixSaid : Prop := fsPrefixRow.holds Tryz.pinned (OpenSpec.ofChange fsPrefixSpec)

/-- ITS FALSE NEIGHBOUR: 'it returns false'. Refute it at one input. -/
def fsPrefixWrong : ChangeSpec := { name := "fsPrefix", fn := fun _ => fun
  | [d1, d2, d3] => { results := [.lit (.bool false)], args := [d1, d2, d3] }
  | _ => none }
def FsPrefixWrongFalsely : Prop := fsPrefixRow.holds Tryz.pinned (OpenSpec.ofChange fsPrefixWrong)

/-- 'lecternlaw01.FsTwins': WHATEVER THE INPUT: true; the input reads as it did. -/
def fsTwinsSpec : ChangeSpec := { name := "fsTwins", fn := fun _ => fun
  | [d1, d2, d3] => { results := [.lit (.bool true)], args := [d1, d2, d3] }
  | _ => none }
def fsTwinsRow : OpenClaim := { program := "ytafcgjbafihniaagreat", sum := "8ee5543546a7c405edf17730d247d4d0343c516739c14072c9360140e1dc611c", func := "lectern/lecternlaw01.FsTwins", spec := "fsTwins", inPlace := ["sync/atomic.AddInt64", "maps.clone", "sync/atomic.LoadInt64", "sync/atomic.StoreInt64"], unfollowed := true, recurses := true, apart := false }
def FsTwinsSaid : Prop := fsTwinsRow.holds Tryz.pinned (OpenSpec.ofChange fsTwinsSpec)

/-- ITS FALSE NEIGHBOUR: 'it returns false'. Refute it at one input. -/
def fsTwinsWrong : ChangeSpec := { name := "fsTwins", fn := fun _ => fun
  | [d1, d2, d3] => { results := [.lit (.bool false)], args := [d1, d2, d3] }
  | _ => none }
def FsTwinsWrongFalsely : Prop := fsTwinsRow.holds Tryz.pinned (OpenSpec.ofChange fsTwinsWrong)

/-- 'lecternlaw01.FsNone': WHATEVER THE INPUT: true; the input reads as it did. -/
def fsNoneSpec : ChangeSpec := { name := "fsNone", fn := fun _ => fun
  | [d1, d2] => { results := [.lit (.bool true)], args := [d1, d2] }
  | _ => none }
def fsNoneRow : OpenClaim := { program := "ytafcgjbafihniaagreat", sum := "8ee5543546a7c405edf17730d247d4d0343c516739c14072c9360140e1dc611c", func := "lectern/lecternlaw01.FsNone", spec := "fsNone", inPlace := ["sync/atomic.AddInt64", "maps.clone", "sync/atomic.LoadInt64", "sync/atomic.StoreInt64"], unfollowed := true, recurses := true, apart := false }
def FsNoneSaid : Prop := fsNoneRow.holds Tryz.pinned (OpenSpec.ofChange fsNoneSpec)

/-- ITS FALSE NEIGHBOUR: 'it returns false'. Refute it at one input. -/
def fsNoneWrong : ChangeSpec := { name := "fsNone", fn := fun _ => fun
  | [d1, d2] => { results := [.lit (.bool false)], args := [d1, d2] }
  | _ => none }
def FsNoneWrongFalsely : Prop := fsNoneRow.holds Tryz.pinned (OpenSpec.ofChange fsNoneWrong)

/-- 'lecternlaw01.FsSettled': WHATEVER THE INPUT: true; the input reads as it did. -/
def fsSettledSpec : ChangeSpec := { name := "fsSettled", fn := fun _ => fun
  | [d1, d2, d3, d4] => { results := [.lit (.bool true)], args := [d1, d2, d3, d4] }
  | _ => none }
def fsSettledRow : OpenClaim := { program := "ytafcgjbafihniaagreat", sum := "8ee5543546a7c405edf17730d247d4d0343c516739c14072c9360140e1dc611c", func := "lectern/lecternlaw01.FsSettled", spec := "fsSettled", inPlace := ["sync/atomic.AddInt64", "maps.clone", "sync/atomic.LoadInt64", "sync/atomic.StoreInt64"], unfollowed := true, recurses := true, apart := false }
def FsSettledSaid : Prop := fsSettledRow.holds Tryz.pinned (OpenSpec.ofChange fsSettledSpec)

/-- ITS FALSE NEIGHBOUR: 'it returns false'. Refute it at one input. -/
def fsSettledWrong : ChangeSpec := { name := "fsSettled", fn := fun _ => fun
  | [d1, d2, d3, d4] => { results := [.lit (.bool false)], args := [d1, d2, d3, d4] }
  | _ => none }
def FsSettledWrongFalsely : Prop := fsSettledRow.holds Tryz.pinned (OpenSpec.ofChange fsSettledWrong)

/- THE SECOND FORM. 'bulk': how many values and letters a reading holds, each counted each time it is reached (what is shared counts as often as it is met; a slice's spare places count too). A statement '..UptoSaid' is the law's where the arguments, and the package variables that the reading takes, are together of bulk at most 1048576: NARROWER than '..Said'. Prove '..Said' where nothing that the law and all that it calls make is longer than what came in: it says more and counts as full. Else prove '..UptoSaid'. A law counts once. -/
mutual
def uptoBulk {H : Type} : DataW H → Nat
  | .lit (.string bytes) => bytes.length + 1
  | .lit _ => 1
  | .nil => 1
  | .ptr d => uptoBulk d + 1
  | .slice elems spare => uptoBulkAll elems + uptoBulkAll spare + 1
  | .agg parts => uptoBulkAll parts + 1
  | .iface _ d => uptoBulk d + 1
  | .map entries => uptoBulkEntries entries + 1
  | .held _ => 1
def uptoBulkAll {H : Type} : List (DataW H) → Nat
  | [] => 0
  | d :: r => uptoBulk d + uptoBulkAll r
def uptoBulkEntries {H : Type} : List (Lit × DataW H) → Nat
  | [] => 0
  | x :: r => uptoBulkEntry x + uptoBulkEntries r
def uptoBulkEntry {H : Type} : Lit × DataW H → Nat
  | (.string bytes, d) => bytes.length + uptoBulk d + 1
  | (_, d) => uptoBulk d + 1
 end
def uptoSmall : (H : Type) → List (DataW H) → Bool := fun _ ds => decide (uptoBulkAll ds ≤ 1048576)
def OpenSpec.upto (s : _root_.Go.ChangeSpec) : _root_.Go.OpenSpec := { _root_.Go.OpenSpec.ofChange s with cond := some uptoSmall }

/-- 'lecternlaw01.FsDoes', WHERE WHAT IT READS IS OF BULK AT MOST 1048576: true; the input reads as it did. -/
def fsDoesUptoRow : OpenClaim := { program := "ytafcgjbafihniaagreat", sum := "8ee5543546a7c405edf17730d247d4d0343c516739c14072c9360140e1dc611c", func := "lectern/lecternlaw01.FsDoes", spec := "fsDoes", inPlace := ["sync/atomic.AddInt64", "maps.clone", "sync/atomic.LoadInt64", "sync/atomic.StoreInt64"], unfollowed := true, recurses := true, apart := false, narrowed := true }
def FsDoesUptoSaid : Prop := fsDoesUptoRow.holds Tryz.pinned (OpenSpec.upto fsDoesSpec)

/-- 'lecternlaw01.FsReads', WHERE WHAT IT READS IS OF BULK AT MOST 1048576: true; the input reads as it did. -/
def fsReadsUptoRow : OpenClaim := { program := "ytafcgjbafihniaagreat", sum := "8ee5543546a7c405edf17730d247d4d0343c516739c14072c9360140e1dc611c", func := "lectern/lecternlaw01.FsReads", spec := "fsReads", inPlace := ["sync/atomic.AddInt64", "maps.clone", "sync/atomic.LoadInt64", "sync/atomic.StoreInt64"], unfollowed := true, recurses := true, apart := false, narrowed := true }
def FsReadsUptoSaid : Prop := fsReadsUptoRow.holds Tryz.pinned (OpenSpec.upto fsReadsSpec)

/-- 'lecternlaw01.FsSynced', WHERE WHAT IT READS IS OF BULK AT MOST 1048576: true; the input reads as it did. -/
def fsSyncedUptoRow : OpenClaim := { program := "ytafcgjbafihniaagreat", sum := "8ee5543546a7c405edf17730d247d4d0343c516739c14072c9360140e1dc611c", func := "lectern/lecternlaw01.FsSynced", spec := "fsSynced", inPlace := ["sync/atomic.AddInt64", "maps.clone", "sync/atomic.LoadInt64", "sync/atomic.StoreInt64"], unfollowed := true, recurses := true, apart := false, narrowed := true }
def FsSyncedUptoSaid : Prop := fsSyncedUptoRow.holds Tryz.pinned (OpenSpec.upto fsSyncedSpec)

/-- 'lecternlaw01.FsPrefix', WHERE WHAT IT READS IS OF BULK AT MOST 1048576: true; the input reads as it did. -/
def fsPrefixUptoRow : OpenClaim := { program := "ytafcgjbafihniaagreat", sum := "8ee5543546a7c405edf17730d247d4d0343c516739c14072c9360140e1dc611c", func := "lectern/lecternlaw01.FsPrefix", spec := "fsPrefix", inPlace := ["sync/atomic.AddInt64", "maps.clone", "sync/atomic.LoadInt64", "sync/atomic.StoreInt64"], unfollowed := true, recurses := true, apart := false, narrowed := true }
def FsPrefixUptoSaid : Prop := fsPrefixUptoRow.holds Tryz.pinned (OpenSpec.upto fsPrefixSpec)

/-- 'lecternlaw01.FsTwins', WHERE WHAT IT READS IS OF BULK AT MOST 1048576: true; the input reads as it did. -/
def fsTwinsUptoRow : OpenClaim := { program := "ytafcgjbafihniaagreat", sum := "8ee5543546a7c405edf17730d247d4d0343c516739c14072c9360140e1dc611c", func := "lectern/lecternlaw01.FsTwins", spec := "fsTwins", inPlace := ["sync/atomic.AddInt64", "maps.clone", "sync/atomic.LoadInt64", "sync/atomic.StoreInt64"], unfollowed := true, recurses := true, apart := false, narrowed := true }
def FsTwinsUptoSaid : Prop := fsTwinsUptoRow.holds Tryz.pinned (OpenSpec.upto fsTwinsSpec)

/-- 'lecternlaw01.FsNone', WHERE WHAT IT READS IS OF BULK AT MOST 1048576: true; the input reads as it did. -/
def fsNoneUptoRow : OpenClaim := { program := "ytafcgjbafihniaagreat", sum := "8ee5543546a7c405edf17730d247d4d0343c516739c14072c9360140e1dc611c", func := "lectern/lecternlaw01.FsNone", spec := "fsNone", inPlace := ["sync/atomic.AddInt64", "maps.clone", "sync/atomic.LoadInt64", "sync/atomic.StoreInt64"], unfollowed := true, recurses := true, apart := false, narrowed := true }
def FsNoneUptoSaid : Prop := fsNoneUptoRow.holds Tryz.pinned (OpenSpec.upto fsNoneSpec)

/-- 'lecternlaw01.FsSettled', WHERE WHAT IT READS IS OF BULK AT MOST 1048576: true; the input reads as it did. -/
def fsSettledUptoRow : OpenClaim := { program := "ytafcgjbafihniaagreat", sum := "8ee5543546a7c405edf17730d247d4d0343c516739c14072c9360140e1dc611c", func := "lectern/lecternlaw01.FsSettled", spec := "fsSettled", inPlace := ["sync/atomic.AddInt64", "maps.clone", "sync/atomic.LoadInt64", "sync/atomic.StoreInt64"], unfollowed := true, recurses := true, apart := false, narrowed := true }
def FsSettledUptoSaid : Prop := fsSettledUptoRow.holds Tryz.pinned (OpenSpec.upto fsSettledSpec)

end Rows
end Go.Proofs.YtafcgjbafihniaaGreat
