/- What the bound of the second form gives: a text's length. No conditions. -/
import Derived.Test.YtlhknlbofcflcaaDoorRows
import Derived.Test.YtlhknlbofcflcaaDoorValPlain
namespace Go.Proofs.YtlhknlbofcflcaaDoor

theorem small_val {H : Type} {k n : Int} {s : ByteArray} {d : DataW H} (hk : Rows.uptoSmall H [.agg [.lit (.int .i64 k), .lit (.int .i64 n), .lit (.string s.data.toList)], d] = true) : s.size ≤ 1048576 := by
  have h := of_decide_eq_true hk
  simp only [Rows.uptoBulkAll, Rows.uptoBulk] at h
  have : s.data.toList.length = s.size := by simp
  omega
theorem small_val2 {H : Type} {k n : Int} {s : ByteArray} {d : DataW H} (hk : Rows.uptoSmall H [d, .agg [.lit (.int .i64 k), .lit (.int .i64 n), .lit (.string s.data.toList)]] = true) : s.size ≤ 1048576 := by
  have h := of_decide_eq_true hk
  simp only [Rows.uptoBulkAll, Rows.uptoBulk] at h
  have : s.data.toList.length = s.size := by simp
  omega
end Go.Proofs.YtlhknlbofcflcaaDoor
