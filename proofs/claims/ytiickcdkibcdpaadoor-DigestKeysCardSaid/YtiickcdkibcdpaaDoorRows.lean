/-
  NARROWER THAN 'FOR EVERY INPUT', by the rows' own cells (each row's printed sentence says how): DigestSums: laid · DigestKeys: laid · DigestLinear: laid · DigestBits: laid · DigestForms: laid.
  DERIVED. THE GIVEN ROWS OF THIS SEAT. 5 by the template 'for every input the law returns true; each argument reads behind the call as it read before'; 0 by the template 'total and deterministic' (their statements: YtiickcdkibcdpaaDoorTotals.lean).
  GIVEN WITH THE SEED: the statements are not yours to turn. If you find one false, say at which input.
  Laid BY PROGRAM, IN A SANDBOX (cutbox-rows.mjs): the forced cells as the released guide's own fill.sh prints them over the translation 34614f1a450f8f77… (all of the seat's roots in one cut). By AI agents, Wed Nov 11 2026. No macro, syntax, notation, axiom, sorry.
-/
import Derived.Test.YtiickcdkibcdpaaDoorChecked
import GoSem.Claim
import GoSem.ClaimJoined
import GoSem.ClaimMapViews
import Derived.JoinedTies
import Derived.KernelRfl
namespace Go.Proofs.YtiickcdkibcdpaaDoor
/- THE CELL 'sum', in the pinned program and in every row, IS THE sha256 OF THE DUMP (.gsa) THAT YtiickcdkibcdpaaDoorProg.lean LOADS. Nothing in Lean hashes anything: it is a label: what it is worth is what the hold of that sum in a sandbox is worth. -/
noncomputable def Tryd.pinned : Pinned := { name := "ytiickcdkibcdpaadoor", sum := "34614f1a450f8f77bfa5455ae0d5e472045be768f2b5cc50b1b963c16470f889", checked := Tryd.checked }
namespace Rows
def none {H : Type} : Left H := { results := [], args := [] }

/- WHAT THE LISTED PACKAGE-LEVEL VARIABLES READ AS WHEN THE CALL BEGINS. Each datum BY PROGRAM (the guide's laid-datum.mjs) off the statement by which the dump's own 'gosem.cut.vars' lays the variable. In a bare row this is a premise. The card (YtiickcdkibcdpaaDoorCards.lean) ties it to the program's text. -/
def laid_tenancy_tenancyref05_sines {H : Type} : DataW H := .agg [.lit (.int .u32 3614090360), .lit (.int .u32 3905402710), .lit (.int .u32 606105819), .lit (.int .u32 3250441966), .lit (.int .u32 4118548399), .lit (.int .u32 1200080426), .lit (.int .u32 2821735955), .lit (.int .u32 4249261313), .lit (.int .u32 1770035416), .lit (.int .u32 2336552879), .lit (.int .u32 4294925233), .lit (.int .u32 2304563134), .lit (.int .u32 1804603682), .lit (.int .u32 4254626195), .lit (.int .u32 2792965006), .lit (.int .u32 1236535329), .lit (.int .u32 4129170786), .lit (.int .u32 3225465664), .lit (.int .u32 643717713), .lit (.int .u32 3921069994), .lit (.int .u32 3593408605), .lit (.int .u32 38016083), .lit (.int .u32 3634488961), .lit (.int .u32 3889429448), .lit (.int .u32 568446438), .lit (.int .u32 3275163606), .lit (.int .u32 4107603335), .lit (.int .u32 1163531501), .lit (.int .u32 2850285829), .lit (.int .u32 4243563512), .lit (.int .u32 1735328473), .lit (.int .u32 2368359562), .lit (.int .u32 4294588738), .lit (.int .u32 2272392833), .lit (.int .u32 1839030562), .lit (.int .u32 4259657740), .lit (.int .u32 2763975236), .lit (.int .u32 1272893353), .lit (.int .u32 4139469664), .lit (.int .u32 3200236656), .lit (.int .u32 681279174), .lit (.int .u32 3936430074), .lit (.int .u32 3572445317), .lit (.int .u32 76029189), .lit (.int .u32 3654602809), .lit (.int .u32 3873151461), .lit (.int .u32 530742520), .lit (.int .u32 3299628645), .lit (.int .u32 4096336452), .lit (.int .u32 1126891415), .lit (.int .u32 2878612391), .lit (.int .u32 4237533241), .lit (.int .u32 1700485571), .lit (.int .u32 2399980690), .lit (.int .u32 4293915773), .lit (.int .u32 2240044497), .lit (.int .u32 1873313359), .lit (.int .u32 4264355552), .lit (.int .u32 2734768916), .lit (.int .u32 1309151649), .lit (.int .u32 4149444226), .lit (.int .u32 3174756917), .lit (.int .u32 718787259), .lit (.int .u32 3951481745)]
def laid_tenancy_tenancyref05_shifts {H : Type} : DataW H := .agg [.lit (.int .u64 7), .lit (.int .u64 12), .lit (.int .u64 17), .lit (.int .u64 22), .lit (.int .u64 5), .lit (.int .u64 9), .lit (.int .u64 14), .lit (.int .u64 20), .lit (.int .u64 4), .lit (.int .u64 11), .lit (.int .u64 16), .lit (.int .u64 23), .lit (.int .u64 6), .lit (.int .u64 10), .lit (.int .u64 15), .lit (.int .u64 21)]
def laid_tenancy_digest_start {H : Type} : DataW H := .agg [.lit (.int .u32 1732584193), .lit (.int .u32 4023233417), .lit (.int .u32 2562383102), .lit (.int .u32 271733878)]
def laid_tenancy_digest_turns {H : Type} : DataW H := .agg [.agg [.lit (.int .i64 7), .lit (.int .i64 12), .lit (.int .i64 17), .lit (.int .i64 22)], .agg [.lit (.int .i64 5), .lit (.int .i64 9), .lit (.int .i64 14), .lit (.int .i64 20)], .agg [.lit (.int .i64 4), .lit (.int .i64 11), .lit (.int .i64 16), .lit (.int .i64 23)], .agg [.lit (.int .i64 6), .lit (.int .i64 10), .lit (.int .i64 15), .lit (.int .i64 21)]]
def laid_tenancy_digest_sines {H : Type} : DataW H := .agg [.lit (.int .u32 3614090360), .lit (.int .u32 3905402710), .lit (.int .u32 606105819), .lit (.int .u32 3250441966), .lit (.int .u32 4118548399), .lit (.int .u32 1200080426), .lit (.int .u32 2821735955), .lit (.int .u32 4249261313), .lit (.int .u32 1770035416), .lit (.int .u32 2336552879), .lit (.int .u32 4294925233), .lit (.int .u32 2304563134), .lit (.int .u32 1804603682), .lit (.int .u32 4254626195), .lit (.int .u32 2792965006), .lit (.int .u32 1236535329), .lit (.int .u32 4129170786), .lit (.int .u32 3225465664), .lit (.int .u32 643717713), .lit (.int .u32 3921069994), .lit (.int .u32 3593408605), .lit (.int .u32 38016083), .lit (.int .u32 3634488961), .lit (.int .u32 3889429448), .lit (.int .u32 568446438), .lit (.int .u32 3275163606), .lit (.int .u32 4107603335), .lit (.int .u32 1163531501), .lit (.int .u32 2850285829), .lit (.int .u32 4243563512), .lit (.int .u32 1735328473), .lit (.int .u32 2368359562), .lit (.int .u32 4294588738), .lit (.int .u32 2272392833), .lit (.int .u32 1839030562), .lit (.int .u32 4259657740), .lit (.int .u32 2763975236), .lit (.int .u32 1272893353), .lit (.int .u32 4139469664), .lit (.int .u32 3200236656), .lit (.int .u32 681279174), .lit (.int .u32 3936430074), .lit (.int .u32 3572445317), .lit (.int .u32 76029189), .lit (.int .u32 3654602809), .lit (.int .u32 3873151461), .lit (.int .u32 530742520), .lit (.int .u32 3299628645), .lit (.int .u32 4096336452), .lit (.int .u32 1126891415), .lit (.int .u32 2878612391), .lit (.int .u32 4237533241), .lit (.int .u32 1700485571), .lit (.int .u32 2399980690), .lit (.int .u32 4293915773), .lit (.int .u32 2240044497), .lit (.int .u32 1873313359), .lit (.int .u32 4264355552), .lit (.int .u32 2734768916), .lit (.int .u32 1309151649), .lit (.int .u32 4149444226), .lit (.int .u32 3174756917), .lit (.int .u32 718787259), .lit (.int .u32 3951481745)]

/-- 'tenancylaw05.DigestSums': WHATEVER THE INPUT: true; the input reads as it did. -/
def digestSumsSpec : ChangeSpec := { name := "digestSums", fn := fun _ => fun
  | [d] => { results := [.lit (.bool true)], args := [d] }
  | _ => none }
def digestSumsRow : OpenClaim := { program := "ytiickcdkibcdpaadoor", sum := "34614f1a450f8f77bfa5455ae0d5e472045be768f2b5cc50b1b963c16470f889", func := "tenancy/tenancylaw05.DigestSums", spec := "digestSums", inPlace := ["internal/abi.NoEscape", "internal/bytealg.MakeNoZero"], named := ["tenancy/digest.start", "tenancy/digest.turns", "tenancy/digest.sines", "tenancy/tenancyref05.sines", "tenancy/tenancyref05.shifts"], apart := false, laid := [("tenancy/tenancyref05.sines", laid_tenancy_tenancyref05_sines), ("tenancy/tenancyref05.shifts", laid_tenancy_tenancyref05_shifts), ("tenancy/digest.start", laid_tenancy_digest_start), ("tenancy/digest.turns", laid_tenancy_digest_turns), ("tenancy/digest.sines", laid_tenancy_digest_sines)] }
def DigestSumsSaid : Prop := digestSumsRow.holds Tryd.pinned (OpenSpec.ofChange digestSumsSpec)

/-- ITS FALSE NEIGHBOUR: 'it returns false'. Refute it at one input. -/
def digestSumsWrong : ChangeSpec := { name := "digestSums", fn := fun _ => fun
  | [d] => { results := [.lit (.bool false)], args := [d] }
  | _ => none }
def DigestSumsWrongFalsely : Prop := digestSumsRow.holds Tryd.pinned (OpenSpec.ofChange digestSumsWrong)

/-- 'tenancylaw05.DigestKeys': WHATEVER THE INPUT: true; the input reads as it did. -/
def digestKeysSpec : ChangeSpec := { name := "digestKeys", fn := fun _ => fun
  | [d1, d2] => { results := [.lit (.bool true)], args := [d1, d2] }
  | _ => none }
def digestKeysRow : OpenClaim := { program := "ytiickcdkibcdpaadoor", sum := "34614f1a450f8f77bfa5455ae0d5e472045be768f2b5cc50b1b963c16470f889", func := "tenancy/tenancylaw05.DigestKeys", spec := "digestKeys", inPlace := ["internal/abi.NoEscape", "internal/bytealg.MakeNoZero"], named := ["tenancy/digest.start", "tenancy/digest.turns", "tenancy/digest.sines", "tenancy/tenancyref05.sines", "tenancy/tenancyref05.shifts"], apart := false, laid := [("tenancy/tenancyref05.sines", laid_tenancy_tenancyref05_sines), ("tenancy/tenancyref05.shifts", laid_tenancy_tenancyref05_shifts), ("tenancy/digest.start", laid_tenancy_digest_start), ("tenancy/digest.turns", laid_tenancy_digest_turns), ("tenancy/digest.sines", laid_tenancy_digest_sines)] }
def DigestKeysSaid : Prop := digestKeysRow.holds Tryd.pinned (OpenSpec.ofChange digestKeysSpec)

/-- ITS FALSE NEIGHBOUR: 'it returns false'. Refute it at one input. -/
def digestKeysWrong : ChangeSpec := { name := "digestKeys", fn := fun _ => fun
  | [d1, d2] => { results := [.lit (.bool false)], args := [d1, d2] }
  | _ => none }
def DigestKeysWrongFalsely : Prop := digestKeysRow.holds Tryd.pinned (OpenSpec.ofChange digestKeysWrong)

/-- 'tenancylaw05.DigestLinear': WHATEVER THE INPUT: true; the input reads as it did. -/
def digestLinearSpec : ChangeSpec := { name := "digestLinear", fn := fun _ => fun
  | [d1, d2, d3] => { results := [.lit (.bool true)], args := [d1, d2, d3] }
  | _ => none }
def digestLinearRow : OpenClaim := { program := "ytiickcdkibcdpaadoor", sum := "34614f1a450f8f77bfa5455ae0d5e472045be768f2b5cc50b1b963c16470f889", func := "tenancy/tenancylaw05.DigestLinear", spec := "digestLinear", inPlace := ["internal/abi.NoEscape", "internal/bytealg.MakeNoZero"], named := ["tenancy/digest.start", "tenancy/digest.turns", "tenancy/digest.sines"], apart := false, laid := [("tenancy/digest.start", laid_tenancy_digest_start), ("tenancy/digest.turns", laid_tenancy_digest_turns), ("tenancy/digest.sines", laid_tenancy_digest_sines)] }
def DigestLinearSaid : Prop := digestLinearRow.holds Tryd.pinned (OpenSpec.ofChange digestLinearSpec)

/-- ITS FALSE NEIGHBOUR: 'it returns false'. Refute it at one input. -/
def digestLinearWrong : ChangeSpec := { name := "digestLinear", fn := fun _ => fun
  | [d1, d2, d3] => { results := [.lit (.bool false)], args := [d1, d2, d3] }
  | _ => none }
def DigestLinearWrongFalsely : Prop := digestLinearRow.holds Tryd.pinned (OpenSpec.ofChange digestLinearWrong)

/-- 'tenancylaw05.DigestBits': WHATEVER THE INPUT: true; the input reads as it did. -/
def digestBitsSpec : ChangeSpec := { name := "digestBits", fn := fun _ => fun
  | [d1, d2, d3] => { results := [.lit (.bool true)], args := [d1, d2, d3] }
  | _ => none }
def digestBitsRow : OpenClaim := { program := "ytiickcdkibcdpaadoor", sum := "34614f1a450f8f77bfa5455ae0d5e472045be768f2b5cc50b1b963c16470f889", func := "tenancy/tenancylaw05.DigestBits", spec := "digestBits", inPlace := ["internal/abi.NoEscape", "internal/bytealg.MakeNoZero"], named := ["tenancy/digest.start", "tenancy/digest.turns", "tenancy/digest.sines"], apart := false, laid := [("tenancy/digest.start", laid_tenancy_digest_start), ("tenancy/digest.turns", laid_tenancy_digest_turns), ("tenancy/digest.sines", laid_tenancy_digest_sines)] }
def DigestBitsSaid : Prop := digestBitsRow.holds Tryd.pinned (OpenSpec.ofChange digestBitsSpec)

/-- ITS FALSE NEIGHBOUR: 'it returns false'. Refute it at one input. -/
def digestBitsWrong : ChangeSpec := { name := "digestBits", fn := fun _ => fun
  | [d1, d2, d3] => { results := [.lit (.bool false)], args := [d1, d2, d3] }
  | _ => none }
def DigestBitsWrongFalsely : Prop := digestBitsRow.holds Tryd.pinned (OpenSpec.ofChange digestBitsWrong)

/-- 'tenancylaw05.DigestForms': WHATEVER THE INPUT: true; the input reads as it did. -/
def digestFormsSpec : ChangeSpec := { name := "digestForms", fn := fun _ => fun
  | [d1, d2] => { results := [.lit (.bool true)], args := [d1, d2] }
  | _ => none }
def digestFormsRow : OpenClaim := { program := "ytiickcdkibcdpaadoor", sum := "34614f1a450f8f77bfa5455ae0d5e472045be768f2b5cc50b1b963c16470f889", func := "tenancy/tenancylaw05.DigestForms", spec := "digestForms", inPlace := ["internal/abi.NoEscape", "internal/bytealg.MakeNoZero"], named := ["tenancy/digest.start", "tenancy/digest.turns", "tenancy/digest.sines"], apart := false, laid := [("tenancy/digest.start", laid_tenancy_digest_start), ("tenancy/digest.turns", laid_tenancy_digest_turns), ("tenancy/digest.sines", laid_tenancy_digest_sines)] }
def DigestFormsSaid : Prop := digestFormsRow.holds Tryd.pinned (OpenSpec.ofChange digestFormsSpec)

/-- ITS FALSE NEIGHBOUR: 'it returns false'. Refute it at one input. -/
def digestFormsWrong : ChangeSpec := { name := "digestForms", fn := fun _ => fun
  | [d1, d2] => { results := [.lit (.bool false)], args := [d1, d2] }
  | _ => none }
def DigestFormsWrongFalsely : Prop := digestFormsRow.holds Tryd.pinned (OpenSpec.ofChange digestFormsWrong)

/- THE SECOND FORM. 'bulk': how many values and letters a reading holds, each counted each time it is reached (what is shared counts as often as it is met; a slice's spare places count too). A statement '..UptoSaid' is the law's where the arguments, and the package variables that the reading takes, are together of bulk at most 1048576: NARROWER than '..Said'. Prove '..Said' where nothing that the law and all that it calls make is longer than what came in: it says more and counts as full. Else prove '..UptoSaid'. A law counts once. -/
mutual
def uptoBulk {H : Type} : DataW H → Nat
  | .lit (.string bytes) => bytes.length + 1
  | .lit _ => 1
  | .nil => 1
  | .ptr d => uptoBulk d + 1
  | .slice elems spare => uptoBulkAll elems + uptoBulkAll spare + 1
  | .agg parts => uptoBulkAll parts + 1
  | .iface _ d => uptoBulk d + 1
  | .map entries => uptoBulkEntries entries + 1
  | .held _ => 1
def uptoBulkAll {H : Type} : List (DataW H) → Nat
  | [] => 0
  | d :: r => uptoBulk d + uptoBulkAll r
def uptoBulkEntries {H : Type} : List (Lit × DataW H) → Nat
  | [] => 0
  | x :: r => uptoBulkEntry x + uptoBulkEntries r
def uptoBulkEntry {H : Type} : Lit × DataW H → Nat
  | (.string bytes, d) => bytes.length + uptoBulk d + 1
  | (_, d) => uptoBulk d + 1
 end
def uptoSmall : (H : Type) → List (DataW H) → Bool := fun _ ds => decide (uptoBulkAll ds ≤ 1048576)
def OpenSpec.upto (s : _root_.Go.ChangeSpec) : _root_.Go.OpenSpec := { _root_.Go.OpenSpec.ofChange s with cond := some uptoSmall }

/-- 'tenancylaw05.DigestSums', WHERE WHAT IT READS IS OF BULK AT MOST 1048576: true; the input reads as it did. -/
def digestSumsUptoRow : OpenClaim := { program := "ytiickcdkibcdpaadoor", sum := "34614f1a450f8f77bfa5455ae0d5e472045be768f2b5cc50b1b963c16470f889", func := "tenancy/tenancylaw05.DigestSums", spec := "digestSums", inPlace := ["internal/abi.NoEscape", "internal/bytealg.MakeNoZero"], named := ["tenancy/digest.start", "tenancy/digest.turns", "tenancy/digest.sines", "tenancy/tenancyref05.sines", "tenancy/tenancyref05.shifts"], apart := false, laid := [("tenancy/tenancyref05.sines", laid_tenancy_tenancyref05_sines), ("tenancy/tenancyref05.shifts", laid_tenancy_tenancyref05_shifts), ("tenancy/digest.start", laid_tenancy_digest_start), ("tenancy/digest.turns", laid_tenancy_digest_turns), ("tenancy/digest.sines", laid_tenancy_digest_sines)], narrowed := true }
def DigestSumsUptoSaid : Prop := digestSumsUptoRow.holds Tryd.pinned (OpenSpec.upto digestSumsSpec)

/-- 'tenancylaw05.DigestKeys', WHERE WHAT IT READS IS OF BULK AT MOST 1048576: true; the input reads as it did. -/
def digestKeysUptoRow : OpenClaim := { program := "ytiickcdkibcdpaadoor", sum := "34614f1a450f8f77bfa5455ae0d5e472045be768f2b5cc50b1b963c16470f889", func := "tenancy/tenancylaw05.DigestKeys", spec := "digestKeys", inPlace := ["internal/abi.NoEscape", "internal/bytealg.MakeNoZero"], named := ["tenancy/digest.start", "tenancy/digest.turns", "tenancy/digest.sines", "tenancy/tenancyref05.sines", "tenancy/tenancyref05.shifts"], apart := false, laid := [("tenancy/tenancyref05.sines", laid_tenancy_tenancyref05_sines), ("tenancy/tenancyref05.shifts", laid_tenancy_tenancyref05_shifts), ("tenancy/digest.start", laid_tenancy_digest_start), ("tenancy/digest.turns", laid_tenancy_digest_turns), ("tenancy/digest.sines", laid_tenancy_digest_sines)], narrowed := true }
def DigestKeysUptoSaid : Prop := digestKeysUptoRow.holds Tryd.pinned (OpenSpec.upto digestKeysSpec)

/-- 'tenancylaw05.DigestLinear', WHERE WHAT IT READS IS OF BULK AT MOST 1048576: true; the input reads as it did. -/
def digestLinearUptoRow : OpenClaim := { program := "ytiickcdkibcdpaadoor", sum := "34614f1a450f8f77bfa5455ae0d5e472045be768f2b5cc50b1b963c16470f889", func := "tenancy/tenancylaw05.DigestLinear", spec := "digestLinear", inPlace := ["internal/abi.NoEscape", "internal/bytealg.MakeNoZero"], named := ["tenancy/digest.start", "tenancy/digest.turns", "tenancy/digest.sines"], apart := false, laid := [("tenancy/digest.start", laid_tenancy_digest_start), ("tenancy/digest.turns", laid_tenancy_digest_turns), ("tenancy/digest.sines", laid_tenancy_digest_sines)], narrowed := true }
def DigestLinearUptoSaid : Prop := digestLinearUptoRow.holds Tryd.pinned (OpenSpec.upto digestLinearSpec)

/-- 'tenancylaw05.DigestBits', WHERE WHAT IT READS IS OF BULK AT MOST 1048576: true; the input reads as it did. -/
def digestBitsUptoRow : OpenClaim := { program := "ytiickcdkibcdpaadoor", sum := "34614f1a450f8f77bfa5455ae0d5e472045be768f2b5cc50b1b963c16470f889", func := "tenancy/tenancylaw05.DigestBits", spec := "digestBits", inPlace := ["internal/abi.NoEscape", "internal/bytealg.MakeNoZero"], named := ["tenancy/digest.start", "tenancy/digest.turns", "tenancy/digest.sines"], apart := false, laid := [("tenancy/digest.start", laid_tenancy_digest_start), ("tenancy/digest.turns", laid_tenancy_digest_turns), ("tenancy/digest.sines", laid_tenancy_digest_sines)], narrowed := true }
def DigestBitsUptoSaid : Prop := digestBitsUptoRow.holds Tryd.pinned (OpenSpec.upto digestBitsSpec)

/-- 'tenancylaw05.DigestForms', WHERE WHAT IT READS IS OF BULK AT MOST 1048576: true; the input reads as it did. -/
def digestFormsUptoRow : OpenClaim := { program := "ytiickcdkibcdpaadoor", sum := "34614f1a450f8f77bfa5455ae0d5e472045be768f2b5cc50b1b963c16470f889", func := "tenancy/tenancylaw05.DigestForms", spec := "digestForms", inPlace := ["internal/abi.NoEscape", "internal/bytealg.MakeNoZero"], named := ["tenancy/digest.start", "tenancy/digest.turns", "tenancy/digest.sines"], apart := false, laid := [("tenancy/digest.start", laid_tenancy_digest_start), ("tenancy/digest.turns", laid_tenancy_digest_turns), ("tenancy/digest.sines", laid_tenancy_digest_sines)], narrowed := true }
def DigestFormsUptoSaid : Prop := digestFormsUptoRow.holds Tryd.pinned (OpenSpec.upto digestFormsSpec)

end Rows
end Go.Proofs.YtiickcdkibcdpaaDoor
