/-
  NARROWER THAN 'FOR EVERY INPUT', by the rows' own cells (each row's printed sentence says how): Encodes: loops.
  DERIVED. THE GIVEN ROWS OF THIS SEAT. 9 by the template 'for every input the law returns true; each argument reads behind the call as it read before'; 0 by the template 'total and deterministic' (their statements: YtbmohenjphmlgaaTotals.lean).
  GIVEN WITH THE SEED: the statements are not yours to turn. If you find one false, say at which input.
  Laid BY PROGRAM, IN A SANDBOX (cutbox-rows.mjs): the forced cells as the released guide's own fill.sh prints them over the translation a5cd133edc02f438… (all of the seat's roots in one cut). By AI agents, Wed Nov 11 2026. No macro, syntax, notation, axiom, sorry.
-/
import Derived.Test.YtbmohenjphmlgaaChecked
import GoSem.Claim
import GoSem.ClaimJoined
import GoSem.ClaimMapViews
import Derived.JoinedTies
import Derived.KernelRfl
namespace Go.Proofs.Ytbmohenjphmlgaa
/- THE CELL 'sum', in the pinned program and in every row, IS THE sha256 OF THE DUMP (.gsa) THAT YtbmohenjphmlgaaProg.lean LOADS. Nothing in Lean hashes anything: it is a label: what it is worth is what the hold of that sum in a sandbox is worth. -/
noncomputable def Try.pinned : Pinned := { name := "ytbmohenjphmlgaa", sum := "a5cd133edc02f438ab806c9f79130e9175d8420fefd0061294f9c7e9eafbef1c", checked := Try.checked }
namespace Rows
def none {H : Type} : Left H := { results := [], args := [] }

/-- 'witnesslaw.Encodes': WHATEVER THE INPUT: true; the input reads as it did. -/
def encodesSpec : ChangeSpec := { name := "encodes", fn := fun _ => fun
  | [d] => { results := [.lit (.bool true)], args := [d] }
  | _ => none }
def encodesRow : OpenClaim := { program := "ytbmohenjphmlgaa", sum := "a5cd133edc02f438ab806c9f79130e9175d8420fefd0061294f9c7e9eafbef1c", func := "witness/witnesslaw.Encodes", spec := "encodes", recurses := true, loops := true, apart := false }
def EncodesSaid : Prop := encodesRow.holds Try.pinned (OpenSpec.ofChange encodesSpec)

/-- ITS FALSE NEIGHBOUR: 'it returns false'. Refute it at one input. -/
def encodesWrong : ChangeSpec := { name := "encodes", fn := fun _ => fun
  | [d] => { results := [.lit (.bool false)], args := [d] }
  | _ => none }
def EncodesWrongFalsely : Prop := encodesRow.holds Try.pinned (OpenSpec.ofChange encodesWrong)

/-- 'witnesslaw.Decodes': WHATEVER THE INPUT: true; the input reads as it did. -/
def decodesSpec : ChangeSpec := { name := "decodes", fn := fun _ => fun
  | [d] => { results := [.lit (.bool true)], args := [d] }
  | _ => none }
def decodesRow : OpenClaim := { program := "ytbmohenjphmlgaa", sum := "a5cd133edc02f438ab806c9f79130e9175d8420fefd0061294f9c7e9eafbef1c", func := "witness/witnesslaw.Decodes", spec := "decodes", recurses := true, apart := false }
def DecodesSaid : Prop := decodesRow.holds Try.pinned (OpenSpec.ofChange decodesSpec)

/-- ITS FALSE NEIGHBOUR: 'it returns false'. Refute it at one input. -/
def decodesWrong : ChangeSpec := { name := "decodes", fn := fun _ => fun
  | [d] => { results := [.lit (.bool false)], args := [d] }
  | _ => none }
def DecodesWrongFalsely : Prop := decodesRow.holds Try.pinned (OpenSpec.ofChange decodesWrong)

/-- 'witnesslaw.Roots': WHATEVER THE INPUT: true; the input reads as it did. -/
def rootsSpec : ChangeSpec := { name := "roots", fn := fun _ => fun
  | [d] => { results := [.lit (.bool true)], args := [d] }
  | _ => none }
def rootsRow : OpenClaim := { program := "ytbmohenjphmlgaa", sum := "a5cd133edc02f438ab806c9f79130e9175d8420fefd0061294f9c7e9eafbef1c", func := "witness/witnesslaw.Roots", spec := "roots", unfollowed := true, recurses := true, apart := false }
def RootsSaid : Prop := rootsRow.holds Try.pinned (OpenSpec.ofChange rootsSpec)

/-- ITS FALSE NEIGHBOUR: 'it returns false'. Refute it at one input. -/
def rootsWrong : ChangeSpec := { name := "roots", fn := fun _ => fun
  | [d] => { results := [.lit (.bool false)], args := [d] }
  | _ => none }
def RootsWrongFalsely : Prop := rootsRow.holds Try.pinned (OpenSpec.ofChange rootsWrong)

/-- 'witnesslaw.Proves': WHATEVER THE INPUT: true; the input reads as it did. -/
def provesSpec : ChangeSpec := { name := "proves", fn := fun _ => fun
  | [d1, d2] => { results := [.lit (.bool true)], args := [d1, d2] }
  | _ => none }
def provesRow : OpenClaim := { program := "ytbmohenjphmlgaa", sum := "a5cd133edc02f438ab806c9f79130e9175d8420fefd0061294f9c7e9eafbef1c", func := "witness/witnesslaw.Proves", spec := "proves", unfollowed := true, recurses := true, apart := false }
def ProvesSaid : Prop := provesRow.holds Try.pinned (OpenSpec.ofChange provesSpec)

/-- ITS FALSE NEIGHBOUR: 'it returns false'. Refute it at one input. -/
def provesWrong : ChangeSpec := { name := "proves", fn := fun _ => fun
  | [d1, d2] => { results := [.lit (.bool false)], args := [d1, d2] }
  | _ => none }
def ProvesWrongFalsely : Prop := provesRow.holds Try.pinned (OpenSpec.ofChange provesWrong)

/-- 'witnesslaw.Verifies': WHATEVER THE INPUT: true; the input reads as it did. -/
def verifiesSpec : ChangeSpec := { name := "verifies", fn := fun _ => fun
  | [d1, d2, d3] => { results := [.lit (.bool true)], args := [d1, d2, d3] }
  | _ => none }
def verifiesRow : OpenClaim := { program := "ytbmohenjphmlgaa", sum := "a5cd133edc02f438ab806c9f79130e9175d8420fefd0061294f9c7e9eafbef1c", func := "witness/witnesslaw.Verifies", spec := "verifies", unfollowed := true, recurses := true, apart := false }
def VerifiesSaid : Prop := verifiesRow.holds Try.pinned (OpenSpec.ofChange verifiesSpec)

/-- ITS FALSE NEIGHBOUR: 'it returns false'. Refute it at one input. -/
def verifiesWrong : ChangeSpec := { name := "verifies", fn := fun _ => fun
  | [d1, d2, d3] => { results := [.lit (.bool false)], args := [d1, d2, d3] }
  | _ => none }
def VerifiesWrongFalsely : Prop := verifiesRow.holds Try.pinned (OpenSpec.ofChange verifiesWrong)

/-- 'witnesskeep.Back': WHATEVER THE INPUT: true; the input reads as it did. -/
def backSpec : ChangeSpec := { name := "back", fn := fun _ => fun
  | [d1, d2] => { results := [.lit (.bool true)], args := [d1, d2] }
  | _ => none }
def backRow : OpenClaim := { program := "ytbmohenjphmlgaa", sum := "a5cd133edc02f438ab806c9f79130e9175d8420fefd0061294f9c7e9eafbef1c", func := "witness/witnesskeep.Back", spec := "back", recurses := true, apart := false }
def BackSaid : Prop := backRow.holds Try.pinned (OpenSpec.ofChange backSpec)

/-- ITS FALSE NEIGHBOUR: 'it returns false'. Refute it at one input. -/
def backWrong : ChangeSpec := { name := "back", fn := fun _ => fun
  | [d1, d2] => { results := [.lit (.bool false)], args := [d1, d2] }
  | _ => none }
def BackWrongFalsely : Prop := backRow.holds Try.pinned (OpenSpec.ofChange backWrong)

/-- 'witnesskeep.Orders': WHATEVER THE INPUT: true; the input reads as it did. -/
def ordersSpec : ChangeSpec := { name := "orders", fn := fun _ => fun
  | [d1, d2, d3, d4] => { results := [.lit (.bool true)], args := [d1, d2, d3, d4] }
  | _ => none }
def ordersRow : OpenClaim := { program := "ytbmohenjphmlgaa", sum := "a5cd133edc02f438ab806c9f79130e9175d8420fefd0061294f9c7e9eafbef1c", func := "witness/witnesskeep.Orders", spec := "orders", unfollowed := true, recurses := true, apart := false }
def OrdersSaid : Prop := ordersRow.holds Try.pinned (OpenSpec.ofChange ordersSpec)

/-- ITS FALSE NEIGHBOUR: 'it returns false'. Refute it at one input. -/
def ordersWrong : ChangeSpec := { name := "orders", fn := fun _ => fun
  | [d1, d2, d3, d4] => { results := [.lit (.bool false)], args := [d1, d2, d3, d4] }
  | _ => none }
def OrdersWrongFalsely : Prop := ordersRow.holds Try.pinned (OpenSpec.ofChange ordersWrong)

/-- 'witnesskeep.Proven': WHATEVER THE INPUT: true; the input reads as it did. -/
def provenSpec : ChangeSpec := { name := "proven", fn := fun _ => fun
  | [d1, d2] => { results := [.lit (.bool true)], args := [d1, d2] }
  | _ => none }
def provenRow : OpenClaim := { program := "ytbmohenjphmlgaa", sum := "a5cd133edc02f438ab806c9f79130e9175d8420fefd0061294f9c7e9eafbef1c", func := "witness/witnesskeep.Proven", spec := "proven", unfollowed := true, recurses := true, apart := false }
def ProvenSaid : Prop := provenRow.holds Try.pinned (OpenSpec.ofChange provenSpec)

/-- ITS FALSE NEIGHBOUR: 'it returns false'. Refute it at one input. -/
def provenWrong : ChangeSpec := { name := "proven", fn := fun _ => fun
  | [d1, d2] => { results := [.lit (.bool false)], args := [d1, d2] }
  | _ => none }
def ProvenWrongFalsely : Prop := provenRow.holds Try.pinned (OpenSpec.ofChange provenWrong)

/-- 'witnesskeep.Spoilt': WHATEVER THE INPUT: true; the input reads as it did. -/
def spoiltSpec : ChangeSpec := { name := "spoilt", fn := fun _ => fun
  | [d1, d2, d3, d4, d5] => { results := [.lit (.bool true)], args := [d1, d2, d3, d4, d5] }
  | _ => none }
def spoiltRow : OpenClaim := { program := "ytbmohenjphmlgaa", sum := "a5cd133edc02f438ab806c9f79130e9175d8420fefd0061294f9c7e9eafbef1c", func := "witness/witnesskeep.Spoilt", spec := "spoilt", unfollowed := true, recurses := true, apart := false }
def SpoiltSaid : Prop := spoiltRow.holds Try.pinned (OpenSpec.ofChange spoiltSpec)

/-- ITS FALSE NEIGHBOUR: 'it returns false'. Refute it at one input. -/
def spoiltWrong : ChangeSpec := { name := "spoilt", fn := fun _ => fun
  | [d1, d2, d3, d4, d5] => { results := [.lit (.bool false)], args := [d1, d2, d3, d4, d5] }
  | _ => none }
def SpoiltWrongFalsely : Prop := spoiltRow.holds Try.pinned (OpenSpec.ofChange spoiltWrong)

/- THE SECOND FORM. 'bulk': how many values and letters a reading holds, each counted each time it is reached (what is shared counts as often as it is met; a slice's spare places count too). A statement '..UptoSaid' is the law's where the arguments, and the package variables that the reading takes, are together of bulk at most 1048576: NARROWER than '..Said'. Prove '..Said' where nothing that the law and all that it calls make is longer than what came in: it says more and counts as full. Else prove '..UptoSaid'. A law counts once. -/
mutual
def uptoBulk {H : Type} : DataW H → Nat
  | .lit (.string bytes) => bytes.length + 1
  | .lit _ => 1
  | .nil => 1
  | .ptr d => uptoBulk d + 1
  | .slice elems spare => uptoBulkAll elems + uptoBulkAll spare + 1
  | .agg parts => uptoBulkAll parts + 1
  | .iface _ d => uptoBulk d + 1
  | .map entries => uptoBulkEntries entries + 1
  | .held _ => 1
def uptoBulkAll {H : Type} : List (DataW H) → Nat
  | [] => 0
  | d :: r => uptoBulk d + uptoBulkAll r
def uptoBulkEntries {H : Type} : List (Lit × DataW H) → Nat
  | [] => 0
  | x :: r => uptoBulkEntry x + uptoBulkEntries r
def uptoBulkEntry {H : Type} : Lit × DataW H → Nat
  | (.string bytes, d) => bytes.length + uptoBulk d + 1
  | (_, d) => uptoBulk d + 1
 end
def uptoSmall : (H : Type) → List (DataW H) → Bool := fun _ ds => decide (uptoBulkAll ds ≤ 1048576)
def OpenSpec.upto (s : _root_.Go.ChangeSpec) : _root_.Go.OpenSpec := { _root_.Go.OpenSpec.ofChange s with cond := some uptoSmall }

/-- 'witnesslaw.Encodes', WHERE WHAT IT READS IS OF BULK AT MOST 1048576: true; the input reads as it did. -/
def encodesUptoRow : OpenClaim := { program := "ytbmohenjphmlgaa", sum := "a5cd133edc02f438ab806c9f79130e9175d8420fefd0061294f9c7e9eafbef1c", func := "witness/witnesslaw.Encodes", spec := "encodes", recurses := true, loops := true, apart := false, narrowed := true }
def EncodesUptoSaid : Prop := encodesUptoRow.holds Try.pinned (OpenSpec.upto encodesSpec)

/-- 'witnesslaw.Decodes', WHERE WHAT IT READS IS OF BULK AT MOST 1048576: true; the input reads as it did. -/
def decodesUptoRow : OpenClaim := { program := "ytbmohenjphmlgaa", sum := "a5cd133edc02f438ab806c9f79130e9175d8420fefd0061294f9c7e9eafbef1c", func := "witness/witnesslaw.Decodes", spec := "decodes", recurses := true, apart := false, narrowed := true }
def DecodesUptoSaid : Prop := decodesUptoRow.holds Try.pinned (OpenSpec.upto decodesSpec)

/-- 'witnesslaw.Roots', WHERE WHAT IT READS IS OF BULK AT MOST 1048576: true; the input reads as it did. -/
def rootsUptoRow : OpenClaim := { program := "ytbmohenjphmlgaa", sum := "a5cd133edc02f438ab806c9f79130e9175d8420fefd0061294f9c7e9eafbef1c", func := "witness/witnesslaw.Roots", spec := "roots", unfollowed := true, recurses := true, apart := false, narrowed := true }
def RootsUptoSaid : Prop := rootsUptoRow.holds Try.pinned (OpenSpec.upto rootsSpec)

/-- 'witnesslaw.Proves', WHERE WHAT IT READS IS OF BULK AT MOST 1048576: true; the input reads as it did. -/
def provesUptoRow : OpenClaim := { program := "ytbmohenjphmlgaa", sum := "a5cd133edc02f438ab806c9f79130e9175d8420fefd0061294f9c7e9eafbef1c", func := "witness/witnesslaw.Proves", spec := "proves", unfollowed := true, recurses := true, apart := false, narrowed := true }
def ProvesUptoSaid : Prop := provesUptoRow.holds Try.pinned (OpenSpec.upto provesSpec)

/-- 'witnesslaw.Verifies', WHERE WHAT IT READS IS OF BULK AT MOST 1048576: true; the input reads as it did. -/
def verifiesUptoRow : OpenClaim := { program := "ytbmohenjphmlgaa", sum := "a5cd133edc02f438ab806c9f79130e9175d8420fefd0061294f9c7e9eafbef1c", func := "witness/witnesslaw.Verifies", spec := "verifies", unfollowed := true, recurses := true, apart := false, narrowed := true }
def VerifiesUptoSaid : Prop := verifiesUptoRow.holds Try.pinned (OpenSpec.upto verifiesSpec)

/-- 'witnesskeep.Back', WHERE WHAT IT READS IS OF BULK AT MOST 1048576: true; the input reads as it did. -/
def backUptoRow : OpenClaim := { program := "ytbmohenjphmlgaa", sum := "a5cd133edc02f438ab806c9f79130e9175d8420fefd0061294f9c7e9eafbef1c", func := "witness/witnesskeep.Back", spec := "back", recurses := true, apart := false, narrowed := true }
def BackUptoSaid : Prop := backUptoRow.holds Try.pinned (OpenSpec.upto backSpec)

/-- 'witnesskeep.Orders', WHERE WHAT IT READS IS OF BULK AT MOST 1048576: true; the input reads as it did. -/
def ordersUptoRow : OpenClaim := { program := "ytbmohenjphmlgaa", sum := "a5cd133edc02f438ab806c9f79130e9175d8420fefd0061294f9c7e9eafbef1c", func := "witness/witnesskeep.Orders", spec := "orders", unfollowed := true, recurses := true, apart := false, narrowed := true }
def OrdersUptoSaid : Prop := ordersUptoRow.holds Try.pinned (OpenSpec.upto ordersSpec)

/-- 'witnesskeep.Proven', WHERE WHAT IT READS IS OF BULK AT MOST 1048576: true; the input reads as it did. -/
def provenUptoRow : OpenClaim := { program := "ytbmohenjphmlgaa", sum := "a5cd133edc02f438ab806c9f79130e9175d8420fefd0061294f9c7e9eafbef1c", func := "witness/witnesskeep.Proven", spec := "proven", unfollowed := true, recurses := true, apart := false, narrowed := true }
def ProvenUptoSaid : Prop := provenUptoRow.holds Try.pinned (OpenSpec.upto provenSpec)

/-- 'witnesskeep.Spoilt', WHERE WHAT IT READS IS OF BULK AT MOST 1048576: true; the input reads as it did. -/
def spoiltUptoRow : OpenClaim := { program := "ytbmohenjphmlgaa", sum := "a5cd133edc02f438ab806c9f79130e9175d8420fefd0061294f9c7e9eafbef1c", func := "witness/witnesskeep.Spoilt", spec := "spoilt", unfollowed := true, recurses := true, apart := false, narrowed := true }
def SpoiltUptoSaid : Prop := spoiltUptoRow.holds Try.pinned (OpenSpec.upto spoiltSpec)

end Rows
end Go.Proofs.Ytbmohenjphmlgaa
