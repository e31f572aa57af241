/- The document's pair: a closed fact of its type. -/
import Derived.Test.YtebcodbmkphgaaaBaseS
namespace Go.Proofs.Ytebcodbmkphgaaa

theorem infoRPair : (Try.prog.info? 42).map (fun i => (i.zero, i.size, i.bytes)) = some (some (.agg #[.string { data := #[] }, .string { data := #[] }]), 2, 32) := by kernel_rfl
end Go.Proofs.Ytebcodbmkphgaaa
