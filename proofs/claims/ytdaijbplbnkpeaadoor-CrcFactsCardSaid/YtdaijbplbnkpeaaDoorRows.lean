/-
  NARROWER THAN 'FOR EVERY INPUT', by the rows' own cells (each row's printed sentence says how): CrcTells: laid · CrcShifts: laid · CrcBits: laid · CrcSearches: laid · CrcSmall: laid · CrcBursts: laid · CrcThree: laid · CrcFacts: laid · CrcLinear: laid · CrcJoins: laid · CrcFinds: laid · CrcWrong: laid.
  DERIVED. THE GIVEN ROWS OF THIS SEAT. 12 by the template 'for every input the law returns true; each argument reads behind the call as it read before'; 0 by the template 'total and deterministic' (their statements: YtdaijbplbnkpeaaDoorTotals.lean).
  GIVEN WITH THE SEED: the statements are not yours to turn. If you find one false, say at which input.
  Laid BY PROGRAM, IN A SANDBOX (cutbox-rows.mjs): the forced cells as the released guide's own fill.sh prints them over the translation 70e189f5510c3a08… (all of the seat's roots in one cut). By AI agents, Wed Nov 11 2026. No macro, syntax, notation, axiom, sorry.
-/
import Derived.Test.YtdaijbplbnkpeaaDoorChecked
import GoSem.Claim
import GoSem.ClaimJoined
import GoSem.ClaimMapViews
import Derived.JoinedTies
import Derived.KernelRfl
namespace Go.Proofs.YtdaijbplbnkpeaaDoor
/- THE CELL 'sum', in the pinned program and in every row, IS THE sha256 OF THE DUMP (.gsa) THAT YtdaijbplbnkpeaaDoorProg.lean LOADS. Nothing in Lean hashes anything: it is a label: what it is worth is what the hold of that sum in a sandbox is worth. -/
noncomputable def Tryd.pinned : Pinned := { name := "ytdaijbplbnkpeaadoor", sum := "70e189f5510c3a085c038b99ac43c04b5cd1d92c1d72c471214288a391d91f12", checked := Tryd.checked }
namespace Rows
def none {H : Type} : Left H := { results := [], args := [] }

/- WHAT THE LISTED PACKAGE-LEVEL VARIABLES READ AS WHEN THE CALL BEGINS. Each datum BY PROGRAM (the guide's laid-datum.mjs) off the statement by which the dump's own 'gosem.cut.vars' lays the variable. In a bare row this is a premise. The card (YtdaijbplbnkpeaaDoorCards.lean) ties it to the program's text. -/
def laid_quantum_crc_halves {H : Type} : DataW H := .agg [.lit (.int .u32 0), .lit (.int .u32 498536548), .lit (.int .u32 997073096), .lit (.int .u32 651767980), .lit (.int .u32 1994146192), .lit (.int .u32 1802195444), .lit (.int .u32 1303535960), .lit (.int .u32 1342533948), .lit (.int .u32 3988292384), .lit (.int .u32 4027552580), .lit (.int .u32 3604390888), .lit (.int .u32 3412177804), .lit (.int .u32 2607071920), .lit (.int .u32 2262029012), .lit (.int .u32 2685067896), .lit (.int .u32 3183342108)]

/-- 'quantumlaw04.CrcTells': WHATEVER THE INPUT: true; the input reads as it did. -/
def crcTellsSpec : ChangeSpec := { name := "crcTells", fn := fun _ => fun
  | [d1, d2] => { results := [.lit (.bool true)], args := [d1, d2] }
  | _ => none }
def crcTellsRow : OpenClaim := { program := "ytdaijbplbnkpeaadoor", sum := "70e189f5510c3a085c038b99ac43c04b5cd1d92c1d72c471214288a391d91f12", func := "quantum/quantumlaw04.CrcTells", spec := "crcTells", unfollowed := true, recurses := true, named := ["quantum/crc.halves"], apart := false, laid := [("quantum/crc.halves", laid_quantum_crc_halves)] }
def CrcTellsSaid : Prop := crcTellsRow.holds Tryd.pinned (OpenSpec.ofChange crcTellsSpec)

/-- ITS FALSE NEIGHBOUR: 'it returns false'. Refute it at one input. -/
def crcTellsWrong : ChangeSpec := { name := "crcTells", fn := fun _ => fun
  | [d1, d2] => { results := [.lit (.bool false)], args := [d1, d2] }
  | _ => none }
def CrcTellsWrongFalsely : Prop := crcTellsRow.holds Tryd.pinned (OpenSpec.ofChange crcTellsWrong)

/-- 'quantumlaw04.CrcShifts': WHATEVER THE INPUT: true; the input reads as it did. -/
def crcShiftsSpec : ChangeSpec := { name := "crcShifts", fn := fun _ => fun
  | [d1, d2, d3] => { results := [.lit (.bool true)], args := [d1, d2, d3] }
  | _ => none }
def crcShiftsRow : OpenClaim := { program := "ytdaijbplbnkpeaadoor", sum := "70e189f5510c3a085c038b99ac43c04b5cd1d92c1d72c471214288a391d91f12", func := "quantum/quantumlaw04.CrcShifts", spec := "crcShifts", unfollowed := true, recurses := true, named := ["quantum/crc.halves"], apart := false, laid := [("quantum/crc.halves", laid_quantum_crc_halves)] }
def CrcShiftsSaid : Prop := crcShiftsRow.holds Tryd.pinned (OpenSpec.ofChange crcShiftsSpec)

/-- ITS FALSE NEIGHBOUR: 'it returns false'. Refute it at one input. -/
def crcShiftsWrong : ChangeSpec := { name := "crcShifts", fn := fun _ => fun
  | [d1, d2, d3] => { results := [.lit (.bool false)], args := [d1, d2, d3] }
  | _ => none }
def CrcShiftsWrongFalsely : Prop := crcShiftsRow.holds Tryd.pinned (OpenSpec.ofChange crcShiftsWrong)

/-- 'quantumlaw04.CrcBits': WHATEVER THE INPUT: true; the input reads as it did. -/
def crcBitsSpec : ChangeSpec := { name := "crcBits", fn := fun _ => fun
  | [d1, d2, d3] => { results := [.lit (.bool true)], args := [d1, d2, d3] }
  | _ => none }
def crcBitsRow : OpenClaim := { program := "ytdaijbplbnkpeaadoor", sum := "70e189f5510c3a085c038b99ac43c04b5cd1d92c1d72c471214288a391d91f12", func := "quantum/quantumlaw04.CrcBits", spec := "crcBits", unfollowed := true, recurses := true, named := ["quantum/crc.halves"], apart := false, laid := [("quantum/crc.halves", laid_quantum_crc_halves)] }
def CrcBitsSaid : Prop := crcBitsRow.holds Tryd.pinned (OpenSpec.ofChange crcBitsSpec)

/-- ITS FALSE NEIGHBOUR: 'it returns false'. Refute it at one input. -/
def crcBitsWrong : ChangeSpec := { name := "crcBits", fn := fun _ => fun
  | [d1, d2, d3] => { results := [.lit (.bool false)], args := [d1, d2, d3] }
  | _ => none }
def CrcBitsWrongFalsely : Prop := crcBitsRow.holds Tryd.pinned (OpenSpec.ofChange crcBitsWrong)

/-- 'quantumlaw04.CrcSearches': WHATEVER THE INPUT: true; the input reads as it did. -/
def crcSearchesSpec : ChangeSpec := { name := "crcSearches", fn := fun _ => fun
  | [d1, d2] => { results := [.lit (.bool true)], args := [d1, d2] }
  | _ => none }
def crcSearchesRow : OpenClaim := { program := "ytdaijbplbnkpeaadoor", sum := "70e189f5510c3a085c038b99ac43c04b5cd1d92c1d72c471214288a391d91f12", func := "quantum/quantumlaw04.CrcSearches", spec := "crcSearches", unfollowed := true, recurses := true, named := ["quantum/crc.halves"], apart := false, laid := [("quantum/crc.halves", laid_quantum_crc_halves)] }
def CrcSearchesSaid : Prop := crcSearchesRow.holds Tryd.pinned (OpenSpec.ofChange crcSearchesSpec)

/-- ITS FALSE NEIGHBOUR: 'it returns false'. Refute it at one input. -/
def crcSearchesWrong : ChangeSpec := { name := "crcSearches", fn := fun _ => fun
  | [d1, d2] => { results := [.lit (.bool false)], args := [d1, d2] }
  | _ => none }
def CrcSearchesWrongFalsely : Prop := crcSearchesRow.holds Tryd.pinned (OpenSpec.ofChange crcSearchesWrong)

/-- 'quantumlaw04.CrcSmall': WHATEVER THE INPUT: true; the input reads as it did. -/
def crcSmallSpec : ChangeSpec := { name := "crcSmall", fn := fun _ => fun
  | [] => { results := [.lit (.bool true)], args := [] }
  | _ => none }
def crcSmallRow : OpenClaim := { program := "ytdaijbplbnkpeaadoor", sum := "70e189f5510c3a085c038b99ac43c04b5cd1d92c1d72c471214288a391d91f12", func := "quantum/quantumlaw04.CrcSmall", spec := "crcSmall", unfollowed := true, recurses := true, named := ["quantum/crc.halves"], apart := false, laid := [("quantum/crc.halves", laid_quantum_crc_halves)] }
def CrcSmallSaid : Prop := crcSmallRow.holds Tryd.pinned (OpenSpec.ofChange crcSmallSpec)

/-- ITS FALSE NEIGHBOUR: 'it returns false'. Refute it at one input. -/
def crcSmallWrong : ChangeSpec := { name := "crcSmall", fn := fun _ => fun
  | [] => { results := [.lit (.bool false)], args := [] }
  | _ => none }
def CrcSmallWrongFalsely : Prop := crcSmallRow.holds Tryd.pinned (OpenSpec.ofChange crcSmallWrong)

/-- 'quantumlaw04.CrcBursts': WHATEVER THE INPUT: true; the input reads as it did. -/
def crcBurstsSpec : ChangeSpec := { name := "crcBursts", fn := fun _ => fun
  | [d1, d2, d3, d4] => { results := [.lit (.bool true)], args := [d1, d2, d3, d4] }
  | _ => none }
def crcBurstsRow : OpenClaim := { program := "ytdaijbplbnkpeaadoor", sum := "70e189f5510c3a085c038b99ac43c04b5cd1d92c1d72c471214288a391d91f12", func := "quantum/quantumlaw04.CrcBursts", spec := "crcBursts", unfollowed := true, recurses := true, named := ["quantum/crc.halves"], apart := false, laid := [("quantum/crc.halves", laid_quantum_crc_halves)] }
def CrcBurstsSaid : Prop := crcBurstsRow.holds Tryd.pinned (OpenSpec.ofChange crcBurstsSpec)

/-- ITS FALSE NEIGHBOUR: 'it returns false'. Refute it at one input. -/
def crcBurstsWrong : ChangeSpec := { name := "crcBursts", fn := fun _ => fun
  | [d1, d2, d3, d4] => { results := [.lit (.bool false)], args := [d1, d2, d3, d4] }
  | _ => none }
def CrcBurstsWrongFalsely : Prop := crcBurstsRow.holds Tryd.pinned (OpenSpec.ofChange crcBurstsWrong)

/-- 'quantumlaw04.CrcThree': WHATEVER THE INPUT: true; the input reads as it did. -/
def crcThreeSpec : ChangeSpec := { name := "crcThree", fn := fun _ => fun
  | [d1, d2, d3, d4, d5] => { results := [.lit (.bool true)], args := [d1, d2, d3, d4, d5] }
  | _ => none }
def crcThreeRow : OpenClaim := { program := "ytdaijbplbnkpeaadoor", sum := "70e189f5510c3a085c038b99ac43c04b5cd1d92c1d72c471214288a391d91f12", func := "quantum/quantumlaw04.CrcThree", spec := "crcThree", unfollowed := true, recurses := true, named := ["quantum/crc.halves"], apart := false, laid := [("quantum/crc.halves", laid_quantum_crc_halves)] }
def CrcThreeSaid : Prop := crcThreeRow.holds Tryd.pinned (OpenSpec.ofChange crcThreeSpec)

/-- ITS FALSE NEIGHBOUR: 'it returns false'. Refute it at one input. -/
def crcThreeWrong : ChangeSpec := { name := "crcThree", fn := fun _ => fun
  | [d1, d2, d3, d4, d5] => { results := [.lit (.bool false)], args := [d1, d2, d3, d4, d5] }
  | _ => none }
def CrcThreeWrongFalsely : Prop := crcThreeRow.holds Tryd.pinned (OpenSpec.ofChange crcThreeWrong)

/-- 'quantumlaw04.CrcFacts': WHATEVER THE INPUT: true; the input reads as it did. -/
def crcFactsSpec : ChangeSpec := { name := "crcFacts", fn := fun _ => fun
  | [] => { results := [.lit (.bool true)], args := [] }
  | _ => none }
def crcFactsRow : OpenClaim := { program := "ytdaijbplbnkpeaadoor", sum := "70e189f5510c3a085c038b99ac43c04b5cd1d92c1d72c471214288a391d91f12", func := "quantum/quantumlaw04.CrcFacts", spec := "crcFacts", unfollowed := true, recurses := true, named := ["quantum/crc.halves"], apart := false, laid := [("quantum/crc.halves", laid_quantum_crc_halves)] }
def CrcFactsSaid : Prop := crcFactsRow.holds Tryd.pinned (OpenSpec.ofChange crcFactsSpec)

/-- ITS FALSE NEIGHBOUR: 'it returns false'. Refute it at one input. -/
def crcFactsWrong : ChangeSpec := { name := "crcFacts", fn := fun _ => fun
  | [] => { results := [.lit (.bool false)], args := [] }
  | _ => none }
def CrcFactsWrongFalsely : Prop := crcFactsRow.holds Tryd.pinned (OpenSpec.ofChange crcFactsWrong)

/-- 'quantumlaw04.CrcLinear': WHATEVER THE INPUT: true; the input reads as it did. -/
def crcLinearSpec : ChangeSpec := { name := "crcLinear", fn := fun _ => fun
  | [d1, d2, d3] => { results := [.lit (.bool true)], args := [d1, d2, d3] }
  | _ => none }
def crcLinearRow : OpenClaim := { program := "ytdaijbplbnkpeaadoor", sum := "70e189f5510c3a085c038b99ac43c04b5cd1d92c1d72c471214288a391d91f12", func := "quantum/quantumlaw04.CrcLinear", spec := "crcLinear", unfollowed := true, recurses := true, named := ["quantum/crc.halves"], apart := false, laid := [("quantum/crc.halves", laid_quantum_crc_halves)] }
def CrcLinearSaid : Prop := crcLinearRow.holds Tryd.pinned (OpenSpec.ofChange crcLinearSpec)

/-- ITS FALSE NEIGHBOUR: 'it returns false'. Refute it at one input. -/
def crcLinearWrong : ChangeSpec := { name := "crcLinear", fn := fun _ => fun
  | [d1, d2, d3] => { results := [.lit (.bool false)], args := [d1, d2, d3] }
  | _ => none }
def CrcLinearWrongFalsely : Prop := crcLinearRow.holds Tryd.pinned (OpenSpec.ofChange crcLinearWrong)

/-- 'quantumlaw04.CrcJoins': WHATEVER THE INPUT: true; the input reads as it did. -/
def crcJoinsSpec : ChangeSpec := { name := "crcJoins", fn := fun _ => fun
  | [d1, d2, d3, d4, d5] => { results := [.lit (.bool true)], args := [d1, d2, d3, d4, d5] }
  | _ => none }
def crcJoinsRow : OpenClaim := { program := "ytdaijbplbnkpeaadoor", sum := "70e189f5510c3a085c038b99ac43c04b5cd1d92c1d72c471214288a391d91f12", func := "quantum/quantumlaw04.CrcJoins", spec := "crcJoins", unfollowed := true, recurses := true, named := ["quantum/crc.halves"], apart := false, laid := [("quantum/crc.halves", laid_quantum_crc_halves)] }
def CrcJoinsSaid : Prop := crcJoinsRow.holds Tryd.pinned (OpenSpec.ofChange crcJoinsSpec)

/-- ITS FALSE NEIGHBOUR: 'it returns false'. Refute it at one input. -/
def crcJoinsWrong : ChangeSpec := { name := "crcJoins", fn := fun _ => fun
  | [d1, d2, d3, d4, d5] => { results := [.lit (.bool false)], args := [d1, d2, d3, d4, d5] }
  | _ => none }
def CrcJoinsWrongFalsely : Prop := crcJoinsRow.holds Tryd.pinned (OpenSpec.ofChange crcJoinsWrong)

/-- 'quantumlaw04.CrcFinds': WHATEVER THE INPUT: true; the input reads as it did. -/
def crcFindsSpec : ChangeSpec := { name := "crcFinds", fn := fun _ => fun
  | [d1, d2, d3, d4] => { results := [.lit (.bool true)], args := [d1, d2, d3, d4] }
  | _ => none }
def crcFindsRow : OpenClaim := { program := "ytdaijbplbnkpeaadoor", sum := "70e189f5510c3a085c038b99ac43c04b5cd1d92c1d72c471214288a391d91f12", func := "quantum/quantumlaw04.CrcFinds", spec := "crcFinds", unfollowed := true, recurses := true, named := ["quantum/crc.halves"], apart := false, laid := [("quantum/crc.halves", laid_quantum_crc_halves)] }
def CrcFindsSaid : Prop := crcFindsRow.holds Tryd.pinned (OpenSpec.ofChange crcFindsSpec)

/-- ITS FALSE NEIGHBOUR: 'it returns false'. Refute it at one input. -/
def crcFindsWrong : ChangeSpec := { name := "crcFinds", fn := fun _ => fun
  | [d1, d2, d3, d4] => { results := [.lit (.bool false)], args := [d1, d2, d3, d4] }
  | _ => none }
def CrcFindsWrongFalsely : Prop := crcFindsRow.holds Tryd.pinned (OpenSpec.ofChange crcFindsWrong)

/-- 'quantumlaw04.CrcWrong': WHATEVER THE INPUT: true; the input reads as it did. -/
def crcWrongSpec : ChangeSpec := { name := "crcWrong", fn := fun _ => fun
  | [d1, d2] => { results := [.lit (.bool true)], args := [d1, d2] }
  | _ => none }
def crcWrongRow : OpenClaim := { program := "ytdaijbplbnkpeaadoor", sum := "70e189f5510c3a085c038b99ac43c04b5cd1d92c1d72c471214288a391d91f12", func := "quantum/quantumlaw04.CrcWrong", spec := "crcWrong", unfollowed := true, recurses := true, named := ["quantum/crc.halves"], apart := false, laid := [("quantum/crc.halves", laid_quantum_crc_halves)] }
def CrcWrongSaid : Prop := crcWrongRow.holds Tryd.pinned (OpenSpec.ofChange crcWrongSpec)

/-- ITS FALSE NEIGHBOUR: 'it returns false'. Refute it at one input. -/
def crcWrongWrong : ChangeSpec := { name := "crcWrong", fn := fun _ => fun
  | [d1, d2] => { results := [.lit (.bool false)], args := [d1, d2] }
  | _ => none }
def CrcWrongWrongFalsely : Prop := crcWrongRow.holds Tryd.pinned (OpenSpec.ofChange crcWrongWrong)

/- THE SECOND FORM. 'bulk': how many values and letters a reading holds, each counted each time it is reached (what is shared counts as often as it is met; a slice's spare places count too). A statement '..UptoSaid' is the law's where the arguments, and the package variables that the reading takes, are together of bulk at most 1048576: NARROWER than '..Said'. Prove '..Said' where nothing that the law and all that it calls make is longer than what came in: it says more and counts as full. Else prove '..UptoSaid'. A law counts once. -/
mutual
def uptoBulk {H : Type} : DataW H → Nat
  | .lit (.string bytes) => bytes.length + 1
  | .lit _ => 1
  | .nil => 1
  | .ptr d => uptoBulk d + 1
  | .slice elems spare => uptoBulkAll elems + uptoBulkAll spare + 1
  | .agg parts => uptoBulkAll parts + 1
  | .iface _ d => uptoBulk d + 1
  | .map entries => uptoBulkEntries entries + 1
  | .held _ => 1
def uptoBulkAll {H : Type} : List (DataW H) → Nat
  | [] => 0
  | d :: r => uptoBulk d + uptoBulkAll r
def uptoBulkEntries {H : Type} : List (Lit × DataW H) → Nat
  | [] => 0
  | x :: r => uptoBulkEntry x + uptoBulkEntries r
def uptoBulkEntry {H : Type} : Lit × DataW H → Nat
  | (.string bytes, d) => bytes.length + uptoBulk d + 1
  | (_, d) => uptoBulk d + 1
 end
def uptoSmall : (H : Type) → List (DataW H) → Bool := fun _ ds => decide (uptoBulkAll ds ≤ 1048576)
def OpenSpec.upto (s : _root_.Go.ChangeSpec) : _root_.Go.OpenSpec := { _root_.Go.OpenSpec.ofChange s with cond := some uptoSmall }

/-- 'quantumlaw04.CrcTells', WHERE WHAT IT READS IS OF BULK AT MOST 1048576: true; the input reads as it did. -/
def crcTellsUptoRow : OpenClaim := { program := "ytdaijbplbnkpeaadoor", sum := "70e189f5510c3a085c038b99ac43c04b5cd1d92c1d72c471214288a391d91f12", func := "quantum/quantumlaw04.CrcTells", spec := "crcTells", unfollowed := true, recurses := true, named := ["quantum/crc.halves"], apart := false, laid := [("quantum/crc.halves", laid_quantum_crc_halves)], narrowed := true }
def CrcTellsUptoSaid : Prop := crcTellsUptoRow.holds Tryd.pinned (OpenSpec.upto crcTellsSpec)

/-- 'quantumlaw04.CrcShifts', WHERE WHAT IT READS IS OF BULK AT MOST 1048576: true; the input reads as it did. -/
def crcShiftsUptoRow : OpenClaim := { program := "ytdaijbplbnkpeaadoor", sum := "70e189f5510c3a085c038b99ac43c04b5cd1d92c1d72c471214288a391d91f12", func := "quantum/quantumlaw04.CrcShifts", spec := "crcShifts", unfollowed := true, recurses := true, named := ["quantum/crc.halves"], apart := false, laid := [("quantum/crc.halves", laid_quantum_crc_halves)], narrowed := true }
def CrcShiftsUptoSaid : Prop := crcShiftsUptoRow.holds Tryd.pinned (OpenSpec.upto crcShiftsSpec)

/-- 'quantumlaw04.CrcBits', WHERE WHAT IT READS IS OF BULK AT MOST 1048576: true; the input reads as it did. -/
def crcBitsUptoRow : OpenClaim := { program := "ytdaijbplbnkpeaadoor", sum := "70e189f5510c3a085c038b99ac43c04b5cd1d92c1d72c471214288a391d91f12", func := "quantum/quantumlaw04.CrcBits", spec := "crcBits", unfollowed := true, recurses := true, named := ["quantum/crc.halves"], apart := false, laid := [("quantum/crc.halves", laid_quantum_crc_halves)], narrowed := true }
def CrcBitsUptoSaid : Prop := crcBitsUptoRow.holds Tryd.pinned (OpenSpec.upto crcBitsSpec)

/-- 'quantumlaw04.CrcSearches', WHERE WHAT IT READS IS OF BULK AT MOST 1048576: true; the input reads as it did. -/
def crcSearchesUptoRow : OpenClaim := { program := "ytdaijbplbnkpeaadoor", sum := "70e189f5510c3a085c038b99ac43c04b5cd1d92c1d72c471214288a391d91f12", func := "quantum/quantumlaw04.CrcSearches", spec := "crcSearches", unfollowed := true, recurses := true, named := ["quantum/crc.halves"], apart := false, laid := [("quantum/crc.halves", laid_quantum_crc_halves)], narrowed := true }
def CrcSearchesUptoSaid : Prop := crcSearchesUptoRow.holds Tryd.pinned (OpenSpec.upto crcSearchesSpec)

/-- 'quantumlaw04.CrcSmall', WHERE WHAT IT READS IS OF BULK AT MOST 1048576: true; the input reads as it did. -/
def crcSmallUptoRow : OpenClaim := { program := "ytdaijbplbnkpeaadoor", sum := "70e189f5510c3a085c038b99ac43c04b5cd1d92c1d72c471214288a391d91f12", func := "quantum/quantumlaw04.CrcSmall", spec := "crcSmall", unfollowed := true, recurses := true, named := ["quantum/crc.halves"], apart := false, laid := [("quantum/crc.halves", laid_quantum_crc_halves)], narrowed := true }
def CrcSmallUptoSaid : Prop := crcSmallUptoRow.holds Tryd.pinned (OpenSpec.upto crcSmallSpec)

/-- 'quantumlaw04.CrcBursts', WHERE WHAT IT READS IS OF BULK AT MOST 1048576: true; the input reads as it did. -/
def crcBurstsUptoRow : OpenClaim := { program := "ytdaijbplbnkpeaadoor", sum := "70e189f5510c3a085c038b99ac43c04b5cd1d92c1d72c471214288a391d91f12", func := "quantum/quantumlaw04.CrcBursts", spec := "crcBursts", unfollowed := true, recurses := true, named := ["quantum/crc.halves"], apart := false, laid := [("quantum/crc.halves", laid_quantum_crc_halves)], narrowed := true }
def CrcBurstsUptoSaid : Prop := crcBurstsUptoRow.holds Tryd.pinned (OpenSpec.upto crcBurstsSpec)

/-- 'quantumlaw04.CrcThree', WHERE WHAT IT READS IS OF BULK AT MOST 1048576: true; the input reads as it did. -/
def crcThreeUptoRow : OpenClaim := { program := "ytdaijbplbnkpeaadoor", sum := "70e189f5510c3a085c038b99ac43c04b5cd1d92c1d72c471214288a391d91f12", func := "quantum/quantumlaw04.CrcThree", spec := "crcThree", unfollowed := true, recurses := true, named := ["quantum/crc.halves"], apart := false, laid := [("quantum/crc.halves", laid_quantum_crc_halves)], narrowed := true }
def CrcThreeUptoSaid : Prop := crcThreeUptoRow.holds Tryd.pinned (OpenSpec.upto crcThreeSpec)

/-- 'quantumlaw04.CrcFacts', WHERE WHAT IT READS IS OF BULK AT MOST 1048576: true; the input reads as it did. -/
def crcFactsUptoRow : OpenClaim := { program := "ytdaijbplbnkpeaadoor", sum := "70e189f5510c3a085c038b99ac43c04b5cd1d92c1d72c471214288a391d91f12", func := "quantum/quantumlaw04.CrcFacts", spec := "crcFacts", unfollowed := true, recurses := true, named := ["quantum/crc.halves"], apart := false, laid := [("quantum/crc.halves", laid_quantum_crc_halves)], narrowed := true }
def CrcFactsUptoSaid : Prop := crcFactsUptoRow.holds Tryd.pinned (OpenSpec.upto crcFactsSpec)

/-- 'quantumlaw04.CrcLinear', WHERE WHAT IT READS IS OF BULK AT MOST 1048576: true; the input reads as it did. -/
def crcLinearUptoRow : OpenClaim := { program := "ytdaijbplbnkpeaadoor", sum := "70e189f5510c3a085c038b99ac43c04b5cd1d92c1d72c471214288a391d91f12", func := "quantum/quantumlaw04.CrcLinear", spec := "crcLinear", unfollowed := true, recurses := true, named := ["quantum/crc.halves"], apart := false, laid := [("quantum/crc.halves", laid_quantum_crc_halves)], narrowed := true }
def CrcLinearUptoSaid : Prop := crcLinearUptoRow.holds Tryd.pinned (OpenSpec.upto crcLinearSpec)

/-- 'quantumlaw04.CrcJoins', WHERE WHAT IT READS IS OF BULK AT MOST 1048576: true; the input reads as it did. -/
def crcJoinsUptoRow : OpenClaim := { program := "ytdaijbplbnkpeaadoor", sum := "70e189f5510c3a085c038b99ac43c04b5cd1d92c1d72c471214288a391d91f12", func := "quantum/quantumlaw04.CrcJoins", spec := "crcJoins", unfollowed := true, recurses := true, named := ["quantum/crc.halves"], apart := false, laid := [("quantum/crc.halves", laid_quantum_crc_halves)], narrowed := true }
def CrcJoinsUptoSaid : Prop := crcJoinsUptoRow.holds Tryd.pinned (OpenSpec.upto crcJoinsSpec)

/-- 'quantumlaw04.CrcFinds', WHERE WHAT IT READS IS OF BULK AT MOST 1048576: true; the input reads as it did. -/
def crcFindsUptoRow : OpenClaim := { program := "ytdaijbplbnkpeaadoor", sum := "70e189f5510c3a085c038b99ac43c04b5cd1d92c1d72c471214288a391d91f12", func := "quantum/quantumlaw04.CrcFinds", spec := "crcFinds", unfollowed := true, recurses := true, named := ["quantum/crc.halves"], apart := false, laid := [("quantum/crc.halves", laid_quantum_crc_halves)], narrowed := true }
def CrcFindsUptoSaid : Prop := crcFindsUptoRow.holds Tryd.pinned (OpenSpec.upto crcFindsSpec)

/-- 'quantumlaw04.CrcWrong', WHERE WHAT IT READS IS OF BULK AT MOST 1048576: true; the input reads as it did. -/
def crcWrongUptoRow : OpenClaim := { program := "ytdaijbplbnkpeaadoor", sum := "70e189f5510c3a085c038b99ac43c04b5cd1d92c1d72c471214288a391d91f12", func := "quantum/quantumlaw04.CrcWrong", spec := "crcWrong", unfollowed := true, recurses := true, named := ["quantum/crc.halves"], apart := false, laid := [("quantum/crc.halves", laid_quantum_crc_halves)], narrowed := true }
def CrcWrongUptoSaid : Prop := crcWrongUptoRow.holds Tryd.pinned (OpenSpec.upto crcWrongSpec)

end Rows
end Go.Proofs.YtdaijbplbnkpeaaDoor
