/-
  NARROWER THAN 'FOR EVERY INPUT', by the rows' own cells (each row's printed sentence says how): PoolMakes: loops · PoolTells: loops · PoolExts: loops · PoolLooks: loops · PoolShort: loops · PoolFinds: loops.
  DERIVED. THE GIVEN ROWS OF THIS SEAT. 6 by the template 'for every input the law returns true; each argument reads behind the call as it read before'; 0 by the template 'total and deterministic' (their statements: YtafmoceinamcdaaGreatTotals.lean).
  GIVEN WITH THE SEED: the statements are not yours to turn. If you find one false, say at which input.
  Laid BY PROGRAM, IN A SANDBOX (cutbox-rows.mjs): the forced cells as the released guide's own fill.sh prints them over the translation cdac8e705beeb306… (all of the seat's roots in one cut). By AI agents, Wed Nov 11 2026. No macro, syntax, notation, axiom, sorry.
-/
import Derived.Test.YtafmoceinamcdaaGreatChecked
import GoSem.Claim
import GoSem.ClaimJoined
import GoSem.ClaimMapViews
import Derived.JoinedTies
import Derived.KernelRfl
namespace Go.Proofs.YtafmoceinamcdaaGreat
/- THE CELL 'sum', in the pinned program and in every row, IS THE sha256 OF THE DUMP (.gsa) THAT YtafmoceinamcdaaGreatProg.lean LOADS. Nothing in Lean hashes anything: it is a label: what it is worth is what the hold of that sum in a sandbox is worth. -/
noncomputable def Tryz.pinned : Pinned := { name := "ytafmoceinamcdaagreat", sum := "cdac8e705beeb306af648de34455044765099c33cb348f2e602f3106c469d59e", checked := Tryz.checked }
namespace Rows
def none {H : Type} : Left H := { results := [], args := [] }

/-- 'glossarylaw14.PoolMakes': WHATEVER THE INPUT: true; the input reads as it did. -/
def poolMakesSpec : ChangeSpec := { name := "poolMakes", fn := fun _ => fun
  | [d] => { results := [.lit (.bool true)], args := [d] }
  | _ => none }
def poolMakesRow : OpenClaim := { program := "ytafmoceinamcdaagreat", sum := "cdac8e705beeb306af648de34455044765099c33cb348f2e602f3106c469d59e", func := "glossary/glossarylaw14.PoolMakes", spec := "poolMakes", unfollowed := true, recurses := true, loops := true, apart := false }
def PoolMakesSaid : Prop := poolMakesRow.holds Tryz.pinned (OpenSpec.ofChange poolMakesSpec)

/-- ITS FALSE NEIGHBOUR: 'it returns false'. Refute it at one input. -/
def poolMakesWrong : ChangeSpec := { name := "poolMakes", fn := fun _ => fun
  | [d] => { results := [.lit (.bool false)], args := [d] }
  | _ => none }
def PoolMakesWrongFalsely : Prop := poolMakesRow.holds Tryz.pinned (OpenSpec.ofChange poolMakesWrong)

/-- 'glossarylaw14.PoolTells': WHATEVER THE INPUT: true; the input reads as it did. -/
def poolTellsSpec : ChangeSpec := { name := "poolTells", fn := fun _ => fun
  | [d1, d2] => { results := [.lit (.bool true)], args := [d1, d2] }
  | _ => none }
def poolTellsRow : OpenClaim := { program := "ytafmoceinamcdaagreat", sum := "cdac8e705beeb306af648de34455044765099c33cb348f2e602f3106c469d59e", func := "glossary/glossarylaw14.PoolTells", spec := "poolTells", unfollowed := true, recurses := true, loops := true, apart := false }
def PoolTellsSaid : Prop := poolTellsRow.holds Tryz.pinned (OpenSpec.ofChange poolTellsSpec)

/-- ITS FALSE NEIGHBOUR: 'it returns false'. Refute it at one input. -/
def poolTellsWrong : ChangeSpec := { name := "poolTells", fn := fun _ => fun
  | [d1, d2] => { results := [.lit (.bool false)], args := [d1, d2] }
  | _ => none }
def PoolTellsWrongFalsely : Prop := poolTellsRow.holds Tryz.pinned (OpenSpec.ofChange poolTellsWrong)

/-- 'glossarylaw14.PoolExts': WHATEVER THE INPUT: true; the input reads as it did. -/
def poolExtsSpec : ChangeSpec := { name := "poolExts", fn := fun _ => fun
  | [d1, d2] => { results := [.lit (.bool true)], args := [d1, d2] }
  | _ => none }
def poolExtsRow : OpenClaim := { program := "ytafmoceinamcdaagreat", sum := "cdac8e705beeb306af648de34455044765099c33cb348f2e602f3106c469d59e", func := "glossary/glossarylaw14.PoolExts", spec := "poolExts", unfollowed := true, recurses := true, loops := true, apart := false }
def PoolExtsSaid : Prop := poolExtsRow.holds Tryz.pinned (OpenSpec.ofChange poolExtsSpec)

/-- ITS FALSE NEIGHBOUR: 'it returns false'. Refute it at one input. -/
def poolExtsWrong : ChangeSpec := { name := "poolExts", fn := fun _ => fun
  | [d1, d2] => { results := [.lit (.bool false)], args := [d1, d2] }
  | _ => none }
def PoolExtsWrongFalsely : Prop := poolExtsRow.holds Tryz.pinned (OpenSpec.ofChange poolExtsWrong)

/-- 'glossarylaw14.PoolLooks': WHATEVER THE INPUT: true; the input reads as it did. -/
def poolLooksSpec : ChangeSpec := { name := "poolLooks", fn := fun _ => fun
  | [d1, d2, d3, d4, d5] => { results := [.lit (.bool true)], args := [d1, d2, d3, d4, d5] }
  | _ => none }
def poolLooksRow : OpenClaim := { program := "ytafmoceinamcdaagreat", sum := "cdac8e705beeb306af648de34455044765099c33cb348f2e602f3106c469d59e", func := "glossary/glossarylaw14.PoolLooks", spec := "poolLooks", unfollowed := true, recurses := true, loops := true, apart := false }
def PoolLooksSaid : Prop := poolLooksRow.holds Tryz.pinned (OpenSpec.ofChange poolLooksSpec)

/-- ITS FALSE NEIGHBOUR: 'it returns false'. Refute it at one input. -/
def poolLooksWrong : ChangeSpec := { name := "poolLooks", fn := fun _ => fun
  | [d1, d2, d3, d4, d5] => { results := [.lit (.bool false)], args := [d1, d2, d3, d4, d5] }
  | _ => none }
def PoolLooksWrongFalsely : Prop := poolLooksRow.holds Tryz.pinned (OpenSpec.ofChange poolLooksWrong)

/-- 'glossarylaw14.PoolShort': WHATEVER THE INPUT: true; the input reads as it did. -/
def poolShortSpec : ChangeSpec := { name := "poolShort", fn := fun _ => fun
  | [d1, d2, d3, d4, d5] => { results := [.lit (.bool true)], args := [d1, d2, d3, d4, d5] }
  | _ => none }
def poolShortRow : OpenClaim := { program := "ytafmoceinamcdaagreat", sum := "cdac8e705beeb306af648de34455044765099c33cb348f2e602f3106c469d59e", func := "glossary/glossarylaw14.PoolShort", spec := "poolShort", inPlace := ["internal/bytealg.IndexByteString", "internal/bytealg.IndexString"], unfollowed := true, recurses := true, named := ["internal/bytealg.MaxLen"], loops := true, apart := false }
def PoolShortSaid : Prop := poolShortRow.holds Tryz.pinned (OpenSpec.ofChange poolShortSpec)

/-- ITS FALSE NEIGHBOUR: 'it returns false'. Refute it at one input. -/
def poolShortWrong : ChangeSpec := { name := "poolShort", fn := fun _ => fun
  | [d1, d2, d3, d4, d5] => { results := [.lit (.bool false)], args := [d1, d2, d3, d4, d5] }
  | _ => none }
def PoolShortWrongFalsely : Prop := poolShortRow.holds Tryz.pinned (OpenSpec.ofChange poolShortWrong)

/-- 'glossarylaw14.PoolFinds': WHATEVER THE INPUT: true; the input reads as it did. -/
def poolFindsSpec : ChangeSpec := { name := "poolFinds", fn := fun _ => fun
  | [d1, d2, d3, d4, d5] => { results := [.lit (.bool true)], args := [d1, d2, d3, d4, d5] }
  | _ => none }
def poolFindsRow : OpenClaim := { program := "ytafmoceinamcdaagreat", sum := "cdac8e705beeb306af648de34455044765099c33cb348f2e602f3106c469d59e", func := "glossary/glossarylaw14.PoolFinds", spec := "poolFinds", inPlace := ["internal/bytealg.IndexByteString", "internal/bytealg.IndexString"], unfollowed := true, recurses := true, named := ["internal/bytealg.MaxLen"], loops := true, apart := false }
def PoolFindsSaid : Prop := poolFindsRow.holds Tryz.pinned (OpenSpec.ofChange poolFindsSpec)

/-- ITS FALSE NEIGHBOUR: 'it returns false'. Refute it at one input. -/
def poolFindsWrong : ChangeSpec := { name := "poolFinds", fn := fun _ => fun
  | [d1, d2, d3, d4, d5] => { results := [.lit (.bool false)], args := [d1, d2, d3, d4, d5] }
  | _ => none }
def PoolFindsWrongFalsely : Prop := poolFindsRow.holds Tryz.pinned (OpenSpec.ofChange poolFindsWrong)

/- THE SECOND FORM. 'bulk': how many values and letters a reading holds, each counted each time it is reached (what is shared counts as often as it is met; a slice's spare places count too). A statement '..UptoSaid' is the law's where the arguments, and the package variables that the reading takes, are together of bulk at most 1048576: NARROWER than '..Said'. Prove '..Said' where nothing that the law and all that it calls make is longer than what came in: it says more and counts as full. Else prove '..UptoSaid'. A law counts once. -/
mutual
def uptoBulk {H : Type} : DataW H → Nat
  | .lit (.string bytes) => bytes.length + 1
  | .lit _ => 1
  | .nil => 1
  | .ptr d => uptoBulk d + 1
  | .slice elems spare => uptoBulkAll elems + uptoBulkAll spare + 1
  | .agg parts => uptoBulkAll parts + 1
  | .iface _ d => uptoBulk d + 1
  | .map entries => uptoBulkEntries entries + 1
  | .held _ => 1
def uptoBulkAll {H : Type} : List (DataW H) → Nat
  | [] => 0
  | d :: r => uptoBulk d + uptoBulkAll r
def uptoBulkEntries {H : Type} : List (Lit × DataW H) → Nat
  | [] => 0
  | x :: r => uptoBulkEntry x + uptoBulkEntries r
def uptoBulkEntry {H : Type} : Lit × DataW H → Nat
  | (.string bytes, d) => bytes.length + uptoBulk d + 1
  | (_, d) => uptoBulk d + 1
 end
def uptoSmall : (H : Type) → List (DataW H) → Bool := fun _ ds => decide (uptoBulkAll ds ≤ 1048576)
def OpenSpec.upto (s : _root_.Go.ChangeSpec) : _root_.Go.OpenSpec := { _root_.Go.OpenSpec.ofChange s with cond := some uptoSmall }

/-- 'glossarylaw14.PoolMakes', WHERE WHAT IT READS IS OF BULK AT MOST 1048576: true; the input reads as it did. -/
def poolMakesUptoRow : OpenClaim := { program := "ytafmoceinamcdaagreat", sum := "cdac8e705beeb306af648de34455044765099c33cb348f2e602f3106c469d59e", func := "glossary/glossarylaw14.PoolMakes", spec := "poolMakes", unfollowed := true, recurses := true, loops := true, apart := false, narrowed := true }
def PoolMakesUptoSaid : Prop := poolMakesUptoRow.holds Tryz.pinned (OpenSpec.upto poolMakesSpec)

/-- 'glossarylaw14.PoolTells', WHERE WHAT IT READS IS OF BULK AT MOST 1048576: true; the input reads as it did. -/
def poolTellsUptoRow : OpenClaim := { program := "ytafmoceinamcdaagreat", sum := "cdac8e705beeb306af648de34455044765099c33cb348f2e602f3106c469d59e", func := "glossary/glossarylaw14.PoolTells", spec := "poolTells", unfollowed := true, recurses := true, loops := true, apart := false, narrowed := true }
def PoolTellsUptoSaid : Prop := poolTellsUptoRow.holds Tryz.pinned (OpenSpec.upto poolTellsSpec)

/-- 'glossarylaw14.PoolExts', WHERE WHAT IT READS IS OF BULK AT MOST 1048576: true; the input reads as it did. -/
def poolExtsUptoRow : OpenClaim := { program := "ytafmoceinamcdaagreat", sum := "cdac8e705beeb306af648de34455044765099c33cb348f2e602f3106c469d59e", func := "glossary/glossarylaw14.PoolExts", spec := "poolExts", unfollowed := true, recurses := true, loops := true, apart := false, narrowed := true }
def PoolExtsUptoSaid : Prop := poolExtsUptoRow.holds Tryz.pinned (OpenSpec.upto poolExtsSpec)

/-- 'glossarylaw14.PoolLooks', WHERE WHAT IT READS IS OF BULK AT MOST 1048576: true; the input reads as it did. -/
def poolLooksUptoRow : OpenClaim := { program := "ytafmoceinamcdaagreat", sum := "cdac8e705beeb306af648de34455044765099c33cb348f2e602f3106c469d59e", func := "glossary/glossarylaw14.PoolLooks", spec := "poolLooks", unfollowed := true, recurses := true, loops := true, apart := false, narrowed := true }
def PoolLooksUptoSaid : Prop := poolLooksUptoRow.holds Tryz.pinned (OpenSpec.upto poolLooksSpec)

/-- 'glossarylaw14.PoolShort', WHERE WHAT IT READS IS OF BULK AT MOST 1048576: true; the input reads as it did. -/
def poolShortUptoRow : OpenClaim := { program := "ytafmoceinamcdaagreat", sum := "cdac8e705beeb306af648de34455044765099c33cb348f2e602f3106c469d59e", func := "glossary/glossarylaw14.PoolShort", spec := "poolShort", inPlace := ["internal/bytealg.IndexByteString", "internal/bytealg.IndexString"], unfollowed := true, recurses := true, named := ["internal/bytealg.MaxLen"], loops := true, apart := false, narrowed := true }
def PoolShortUptoSaid : Prop := poolShortUptoRow.holds Tryz.pinned (OpenSpec.upto poolShortSpec)

/-- 'glossarylaw14.PoolFinds', WHERE WHAT IT READS IS OF BULK AT MOST 1048576: true; the input reads as it did. -/
def poolFindsUptoRow : OpenClaim := { program := "ytafmoceinamcdaagreat", sum := "cdac8e705beeb306af648de34455044765099c33cb348f2e602f3106c469d59e", func := "glossary/glossarylaw14.PoolFinds", spec := "poolFinds", inPlace := ["internal/bytealg.IndexByteString", "internal/bytealg.IndexString"], unfollowed := true, recurses := true, named := ["internal/bytealg.MaxLen"], loops := true, apart := false, narrowed := true }
def PoolFindsUptoSaid : Prop := poolFindsUptoRow.holds Tryz.pinned (OpenSpec.upto poolFindsSpec)

end Rows
end Go.Proofs.YtafmoceinamcdaaGreat
