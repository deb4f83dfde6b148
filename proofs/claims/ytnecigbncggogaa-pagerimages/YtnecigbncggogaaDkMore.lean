/- More on disks for the laws: numbers folded into a range; texts of bytes; what settling leaves alone. No conditions. -/
import Derived.Test.YtnecigbncggogaaDkWorks
import Derived.Test.YtnecigbncggogaaDkOpen
import Derived.Laws.IdiomStrings
import Derived.Laws.BytesString
namespace Go.Proofs.Ytnecigbncggogaa
open Go.RowKit
set_option linter.unusedVariables false
set_option maxRecDepth 20000

theorem umod_bd (n m : Int) (h0 : 0 < m) (h1 : m ≤ 1000) : 0 ≤ wrap64 ((IntKind.u64.wrap n).tmod m) ∧ wrap64 ((IntKind.u64.wrap n).tmod m) < m := by
  have hw : 0 ≤ IntKind.u64.wrap n := by
    have e : IntKind.u64.wrap n = n % 18446744073709551616 := by simp [IntKind.wrap, IntKind.bits, IntKind.signed]
    rw [e]; omega
  generalize IntKind.u64.wrap n = u at *
  have a1 := Int.tmod_lt_of_pos u h0
  have a2 : 0 ≤ u.tmod m := Int.tmod_nonneg m hw
  generalize u.tmod m = t at *
  have e : wrap64 t = t := by unfold wrap64; omega
  rw [e]
  exact ⟨a2, a1⟩
theorem conv_byts {w : World} {p : Option Addr} {l : List UInt8} (c : Nat) (h : Byts w p l) : (convert 22 9 (.slice p l.length c)).run Try.prog w = .ok (.string ⟨l.toArray⟩) w := by
  rcases h with rfl | ⟨b, off, rfl, hc⟩
  · have := run_convert_bytes_string (P := Try.prog) w 22 9 5 p 0 c Try.underlying22 Try.underlying5 Try.underlying9
    simp only [List.length_nil]
    rw [this]
    cases p <;> rfl
  · refine run_convert_bytes_back (P := Try.prog) w 22 9 5 ⟨b, off, none⟩ c l Try.underlying22 Try.underlying5 Try.underlying9 (fun j hj => ?_)
    rw [Addr.add_mid]
    exact hc j hj
theorem settleIn_other (c : Nat → Nat) (q : Int) : ∀ (l : List (Int × List UInt8)) (i : Nat) (L : Int → List UInt8), (∀ x ∈ l, x.1 ≠ q) → settleIn c l i L q = L q
  | [], _, _, _ => rfl
  | x :: r, i, L, h => by
    show settleIn c r (i + 1) _ q = _
    rw [settleIn_other c q r (i + 1) _ (fun y hy => h y (List.mem_cons_of_mem _ hy))]
    unfold putP
    rw [if_neg (fun e => h x (List.mem_cons_self ..) e.symm)]
theorem QP.conv {s : Nat} {w0 w : World} {db g : Nat} {d : Dk} {ps : List (Nat × List UInt8)} {l : List UInt8} (h : QP s w0 w db d ps) (hx : (g, l) ∈ ps) (hl : l.length = 512) (c : Nat) : (convert 22 9 (.slice (some ⟨g, 0, none⟩) 512 c)).run Try.prog w = .ok (.string ⟨l.toArray⟩) w := by
  obtain ⟨t, b⟩ := h.2 _ hx
  have := conv_byts c b.byts
  rw [hl] at this
  exact this
theorem QP.sync {s : Nat} {w0 w : World} {db : Nat} {d : Dk} {ps : List (Nat × List UInt8)} (h : QP s w0 w db d ps) (hm : d.pend.length < 1000000) :
    Calls Try.prog 44 #[.pointer (some ⟨db, 0, none⟩)] w fun e w' => e = .returned (.int .i64 d.syErr) ∧ QP s w0 w' db d.sy ps := by
  refine (h.1.sync hm).mono ?_
  rintro e w' ⟨he, D, K⟩
  exact ⟨he, h.keep D K⟩
theorem QP.mend {s : Nat} {w0 w : World} {db : Nat} {d : Dk} {ps : List (Nat × List UInt8)} (h : QP s w0 w db d ps) (kp : Option Addr) (keep : List Bool) (kc : Nat) (torn cut : Int) (hm : d.pend.length < 1000000) (hk : Bits w kp keep) (hkl : keep ≠ [] → ∀ b off, kp = some ⟨b, off, none⟩ → b < s) :
    Calls Try.prog 28 #[.pointer (some ⟨db, 0, none⟩), .slice kp keep.length kc, .int .i64 torn, .int .i64 cut] w fun e w' => e = .returned (.tuple #[]) ∧ QP s w0 w' db (d.mended keep torn cut) ps := by
  refine (h.1.mend kp keep kc torn cut hm hk (fun a b c e => Or.inl (hkl a b c e))).mono ?_
  rintro e w' ⟨he, D, K⟩
  exact ⟨he, h.keep D K⟩
theorem Bits.lt {w : World} {kp : Option Addr} {keep : List Bool} (h : Bits w kp keep) : keep ≠ [] → ∀ b off, kp = some ⟨b, off, none⟩ → b < w.heap.size := by
  intro hne b off e
  rcases h with h | ⟨b', off', hp, hc⟩
  · exact absurd h hne
  · rw [hp] at e
    simp only [Option.some.injEq, Addr.mk.injEq, and_true] at e
    rw [← e.1]
    exact cell_lt (hc 0 (List.length_pos_iff.2 hne))
theorem Bits.below {w w' : World} {kp : Option Addr} {keep : List Bool} (h : Bits w kp keep) (B : Below w.heap.size w w') : Bits w' kp keep := h.kept (fun k hk => B.block k hk)
theorem Ops.at {w : World} {p : Option Addr} {l : List Opx} (h : Ops w p l) {k : Nat} (hk : k < l.length) : ∃ g off, p = some ⟨g, off, none⟩ ∧ OpAt w g (off + k * 8) l[k] := by
  rcases h with rfl | ⟨g, off, hp, hc⟩
  · simp at hk
  · exact ⟨g, off, hp, hc k hk⟩
theorem QP.less {s : Nat} {w0 w : World} {db : Nat} {d : Dk} {ps qs : List (Nat × List UInt8)} (h : QP s w0 w db d ps) (hq : ∀ x ∈ qs, x ∈ ps) : QP s w0 w db d qs :=
  ⟨h.1.less (fun k hk => by obtain ⟨x, hx, e⟩ := hk; exact ⟨x, hq x hx, e⟩), fun x hx => h.2 x (hq x hx)⟩
end Go.Proofs.Ytnecigbncggogaa
