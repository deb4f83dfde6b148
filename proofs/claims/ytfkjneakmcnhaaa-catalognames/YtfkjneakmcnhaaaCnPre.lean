/- What catalog.Prefix and the document's Prefix answer: the same four bytes. No condition. -/
import Derived.Test.YtfkjneakmcnhaaaCnKey
namespace Go.Proofs.Ytfkjneakmcnhaaa
open Go.RowKit Go.Lib
set_option linter.unusedVariables false
set_option maxRecDepth 20000

/-- A byte of a number. -/
def pby (n d : Int) : UInt8 := UInt8.ofNat (n / d % 256).toNat
theorem pby_int (n d : Int) : ((pby n d).toNat : Int) = n / d % 256 := by
  unfold pby
  rw [UInt8.toNat_ofNat']
  have h1 := Int.emod_nonneg (n / d) (b := 256) (by decide)
  have h2 := Int.emod_lt_of_pos (n / d) (b := 256) (by decide)
  generalize n / d % 256 = x at *
  omega
/-- What keys begin with. -/
def pre4 (n : Int) : List UInt8 := [pby n 16777216, pby n 65536, pby n 256, pby n 1]
/-- What Prefix answers. -/
def PreEnd (n : Int) (w : World) (e : Ending) (w' : World) : Prop :=
  ∃ q, e = .returned (.slice (some ⟨q, 0, none⟩) 4 4) ∧ Byts w' (some ⟨q, 0, none⟩) (pre4 n) ∧ Below w.heap.size w w'

theorem pre_made (n a b c d : Int) (w : World) (ha : a = n / 16777216 % 256) (hb : b = n / 65536 % 256) (hc : c = n / 256 % 256) (hd : d = n % 256) :
    Byts (w.alloc (.cells #[Value.int .u8 a, .int .u8 b, .int .u8 c, .int .u8 d] 5)) (some ⟨w.heap.size, 0, none⟩) (pre4 n) := by
  refine ⟨_, _, rfl, fun i hi => ?_⟩
  rw [cell_of_row _ w.heap.size (0 + i) #[Value.int .u8 a, .int .u8 b, .int .u8 c, .int .u8 d] 5 _ (heap_alloc_new w _), Nat.zero_add]
  have hi' : i < 4 := hi
  have hx : i = 0 ∨ i = 1 ∨ i = 2 ∨ i = 3 := by omega
  rcases hx with rfl | rfl | rfl | rfl
  · show some (Value.int .u8 a) = some (.int .u8 ((pby n 16777216).toNat : Int))
    rw [pby_int, ha]
  · show some (Value.int .u8 b) = some (.int .u8 ((pby n 65536).toNat : Int))
    rw [pby_int, hb]
  · show some (Value.int .u8 c) = some (.int .u8 ((pby n 256).toNat : Int))
    rw [pby_int, hc]
  · show some (Value.int .u8 d) = some (.int .u8 ((pby n 1).toNat : Int))
    rw [pby_int, hd, Int.ediv_one]

set_option maxHeartbeats 1000000 in
theorem prefix_any (n : Int) (w : World) :
    Calls Try.prog 7 #[.int .i64 n] w (PreEnd n w) := by
  go_enter Try.func7, Try.ntmps7
  go_wp2
  go_ret
  exact ⟨_, rfl, pre_made n _ _ _ _ w rfl rfl rfl rfl, (Below.refl _ _).alloc (Nat.le_refl _) _⟩

theorem wrap_part (n m : Int) (d : Int) (hm : m = IntKind.u64.wrap n) (hd : d = 16777216 ∨ d = 65536 ∨ d = 256 ∨ d = 1) : (m / d).tmod 256 % 256 = n / d % 256 := by
  have h : m = n % 18446744073709551616 := by rw [hm, IntKind.wrap_u64]
  have h0 : 0 ≤ m := by omega
  rw [Int.tmod_eq_emod_of_nonneg (Int.ediv_nonneg h0 (by omega))]
  rcases hd with rfl | rfl | rfl | rfl <;> omega

set_option maxHeartbeats 1000000 in
theorem rprefix_any (n : Int) (w : World) :
    Calls Try.prog 8 #[.int .i64 n] w (PreEnd n w) := by
  obtain ⟨m, hm⟩ : ∃ m, m = IntKind.u64.wrap n := ⟨_, rfl⟩
  have H1 := hid (wrap_part n m 16777216 hm (by omega))
  have H2 := hid (wrap_part n m 65536 hm (by omega))
  have H3 := hid (wrap_part n m 256 hm (by omega))
  have H4 := hid (wrap_part n m 1 hm (by omega))
  have HM := hid hm
  clear hm
  go_enter Try.func8, Try.ntmps8
  go_wp2
  rw [← HM.out]
  go_ret
  refine ⟨_, rfl, pre_made n _ _ _ _ w H1.out H2.out H3.out ?_, (Below.refl _ _).alloc (Nat.le_refl _) _⟩
  have := H4.out
  rwa [Int.ediv_one, Int.ediv_one] at this
end Go.Proofs.Ytfkjneakmcnhaaa
