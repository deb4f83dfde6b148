/- The laws' own works; Encode, Decode and Size in one form; the document's SameRow at any two rows. Condition: the slices' lengths are Go's. -/
import Derived.Test.YtaoeonbhlpnjiaaRowDecode
import Derived.Test.YtaoeonbhlpnjiaaRowShort
import Derived.Test.YtaoeonbhlpnjiaaRowTrip
import Derived.Laws.Cover1
namespace Go.Proofs.Ytaoeonbhlpnjiaa
open Go.RowKit Go.Lib Go.Sort
set_option linter.unusedVariables false

def rowOf : Except Int (List Val) → List Val
  | .ok vs => vs
  | .error _ => []
def errOf : Except Int (List Val) → Int
  | .ok _ => 0
  | .error n => n
theorem decEnd.uni {x : Except Int (List Val)} {w w' : World} {e : Ending} (h : decEnd x w e w') : Below w.heap.size w w' ∧ ∃ v, e = .returned (.tuple #[v, .int .i64 (errOf x)]) ∧ OwnV w' w.heap.size v (rowOf x) := by
  obtain ⟨B, h⟩ := h
  cases x with
  | ok vs => exact ⟨B, h⟩
  | error n => exact ⟨B, _, h, ownV_nil _ _⟩
theorem inV_of {xs : List Val} (h : xs.all Val.right = true) (hn : ∀ v ∈ xs, -9223372036854775808 ≤ v.n ∧ v.n ≤ 9223372036854775807) (hb : bulkR xs ≤ 200000) : ∀ v ∈ xs, InV v := fun v hv =>
  ⟨List.all_eq_true.1 h v hv, (hn v hv).1, (hn v hv).2, by have := bulkR_mem xs v hv; omega⟩

theorem row_lit (w : World) (k n : Int) (s : ByteArray) (t : TypeId) : Row (w.alloc (.cells #[.int .i64 k, .int .i64 n, .string s] t)) (some ⟨w.heap.size, 0, none⟩) [⟨k, n, s⟩] := by
  refine Or.inr ⟨_, _, rfl, fun i hi => ?_⟩
  obtain rfl : i = 0 := by simp at hi; omega
  refine ⟨?_, ?_, ?_⟩ <;> go_simp
theorem enc_lit : encW [(⟨2, 300, ⟨#[]⟩⟩ : Val)] = [1, 2, 216, 4] := by
  have h1 : uv 1 = [1] := uv_one (by decide)
  have h2 : uv 600 = [216, 4] := by rw [uv_more (by decide), uv_one (by decide)]; rfl
  have h3 : zz 300 = 600 := by decide
  show uv 1 ++ (bytesW ⟨2, 300, ⟨#[]⟩⟩ ++ []) = _
  rw [h1, List.append_nil]
  unfold bytesW bodyW
  simp [h3, h2]
theorem dec_lit : decW [1, 5] = .error 5 := by
  simp [decW, readW, numG, rowG, valW, closeW]
theorem size_lit : sizeW [(⟨0, 0, ⟨#[]⟩⟩ : Val)] = 2 := by
  have h1 : uv 1 = [1] := uv_one (by decide)
  have h : ([(⟨0, 0, ⟨#[]⟩⟩ : Val)]).all Val.right = true := by decide
  unfold sizeW
  rw [if_pos h]
  show (uv 1 ++ (bytesW ⟨0, 0, ⟨#[]⟩⟩ ++ [])).length = 2
  rw [h1]
  rfl
theorem OwnB.up {w : World} {base : Nat} {v : Value} {l : List UInt8} (h : OwnB w base v l) (o : Obj) : OwnB (w.alloc o) base v l := World.ownsRow.alloc h o

set_option maxHeartbeats 4000000 in
theorem worksW_any (w : World) : Calls Try.prog 17 #[] w fun e w' => e = .returned (.bool true) ∧ Below w.heap.size w w' := by
  have E := fun (w : World) => (rencode_any (some ⟨w.heap.size, 0, none⟩) [⟨2, 300, ⟨#[]⟩⟩] 1 (w.alloc (.cells #[.int .i64 2, .int .i64 300, .string ⟨#[]⟩] 38)) (row_lit w 2 300 ⟨#[]⟩ _) (by intro v hv; simp at hv; subst hv; exact ⟨by decide, by decide⟩) (by decide)).mono (R' := fun e w' => Below (w.alloc (.cells #[.int .i64 2, .int .i64 300, .string ⟨#[]⟩] 38)).heap.size (w.alloc (.cells #[.int .i64 2, .int .i64 300, .string ⟨#[]⟩] 38)) w' ∧ ∃ v, e = .returned (.tuple #[v, .int .i64 0]) ∧ OwnB w' (w.alloc (.cells #[.int .i64 2, .int .i64 300, .string ⟨#[]⟩] 38)).heap.size v [1, 2, 216, 4]) (by
    rintro e w' ⟨B, ⟨h, _⟩ | ⟨_, h, _⟩ | ⟨_, _, h⟩⟩
    · exact absurd h (by decide)
    · rw [enc_lit] at h; exact absurd h (by decide)
    · rw [enc_lit] at h; exact ⟨B, h⟩)
  simp only [List.length_cons, List.length_nil] at E
  have D := fun (w : World) => (decodeW_any (some ⟨w.heap.size, 0, none⟩) [1, 5] 2 (w.alloc (.cells #[.int .u8 1, .int .u8 5] 5)) (by decide) (by obtain ⟨p, c, h, r, _⟩ := Byts.of_own (own_lits w 0 (Nat.zero_le _) [1, 5] #[.int .u8 1, .int .u8 5] rfl (by unfold maxLen; simp)); cases h; exact r) (by decide))
  rw [dec_lit] at D
  unfold decEnd at D
  simp only [List.length_cons, List.length_nil] at D
  have Z := fun (w : World) => rsize_any (some ⟨w.heap.size, 0, none⟩) [⟨0, 0, ⟨#[]⟩⟩] 1 (w.alloc (.cells #[.int .i64 0, .int .i64 0, .string ⟨#[]⟩] 38)) (row_lit w 0 0 ⟨#[]⟩ _) (by intro v hv; simp at hv; subst hv; exact ⟨by decide, by decide⟩) (by decide)
  rw [size_lit] at Z
  simp only [List.length_cons, List.length_nil] at Z
  have L4 := fun (w : World) => conv_own (own_lits w 0 (Nat.zero_le _) [1, 2, 216, 4] #[.int .u8 1, .int .u8 2, .int .u8 216, .int .u8 4] rfl (by unfold maxLen; simp))
  simp only [List.length_cons, List.length_nil] at L4
  have Z' : ∀ (w : World) (o : Obj), Calls Try.prog 12 #[.slice (some ⟨w.heap.size + 1, 0, none⟩) 1 1] ((w.alloc o).alloc (.cells #[.int .i64 0, .int .i64 0, .string ⟨#[]⟩] 38)) fun e w' => e = .returned (.int .i64 2) ∧ Below w.heap.size w w' := by
    intro w o
    have h := (Z (w.alloc o)).mono (R' := fun e w' => e = .returned (.int .i64 2) ∧ Below w.heap.size w w') (by
      rintro e w' ⟨h1, h2⟩
      exact ⟨h1, below_new (below_new h2)⟩)
    have e : (w.alloc o).heap.size = w.heap.size + 1 := by simp
    rw [e] at h
    exact h
  have HE := hid E
  have HD := hid D
  have HZ := hid Z'
  clear E D Z Z'
  go_enter Try.func17, Try.ntmps17
  go_wp2_with (first
    | (go_at_call 10; with_reducible refine (HE.out w).mono ?_; rintro e w1 ⟨b1, v1, he, o1⟩; subst he; have O1 := hid o1; have B1 := hid (below_new b1); clear o1 b1)
    | (go_at_call 15; with_reducible refine (HD.out w1).mono ?_; rintro e w2 ⟨b2, he⟩; subst he; have B2 := hid (below_new b2); have hc1 := conv_own (O1.out.below B2.out); have hc3 := fun o => conv_own (OwnB.up (O1.out.below B2.out) o); clear b2)
    | (go_at_call 12; with_reducible refine (HZ.out w2 _).mono ?_; rintro e w3 ⟨rfl, b3⟩; have B3 := hid b3; clear b3)
    | fail)
  go_ret
  exact ⟨rfl, (B1.out.trans (B2.out.mono B1.out.size)).trans (B3.out.mono (Nat.le_trans B1.out.size B2.out.size))⟩
end Go.Proofs.Ytaoeonbhlpnjiaa
