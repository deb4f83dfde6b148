/- What Tokens answers, as its callers see it, and that the law's works answers true. Conditions: the library's variables hold what their text lays. -/
import Derived.Test.YtbaemjibaeeglaaGreatDoorLxSeen
namespace Go.Proofs.YtbaemjibaeeglaaGreatDoor
open Go.RowKit Go.Lib Go.Sort
set_option linter.unusedVariables false
set_option maxRecDepth 20000

theorem xtok_ok (s : ByteArray) (xs : List (Tk × Nat)) (w : World) (hs : s.size ≤ 140737488351232) (hw : Rdy w) (h : lexR s.data.toList = .ok xs) :
    Calls Tryz.prog 7 #[.string s] w fun e w' => ∃ p c, e = .returned (.tuple #[.slice p xs.length c, .nilIface]) ∧ TR w' p xs ∧ xs.length ≤ maxLen ∧ Below w.heap.size w w' := by
  have C := xtokens_any s w hs hw
  rw [h] at C
  refine C.mono ?_
  rintro e w' ⟨hb, v, rfl, hO⟩
  obtain ⟨p, c, rfl, hm, hT⟩ := TR.of_own hO
  exact ⟨p, c, rfl, hT, hm, hb⟩
theorem xtok_err (s : ByteArray) (i : Nat) (n : Int) (w : World) (hs : s.size ≤ 140737488351232) (hw : Rdy w) (h : lexR s.data.toList = .error (i, n)) :
    Calls Tryz.prog 7 #[.string s] w fun e w' => ∃ b, e = .returned (.tuple #[.slice none 0 0, .iface 45 (.pointer (some ⟨b, 0, none⟩))]) ∧ w'.cell? ⟨b, 0, none⟩ = some (.int .i64 (i : Int)) ∧ w'.cell? ⟨b, 1, none⟩ = some (.iface 27 (.int .i64 n)) ∧ Below w.heap.size w w' := by
  have C := xtokens_any s w hs hw
  rw [h] at C
  refine C.mono ?_
  rintro e w' ⟨hb, b, rfl, h0, h1⟩
  exact ⟨b, rfl, h0, h1, hb⟩

def wkA : List UInt8 := [83, 69, 76, 69, 67, 84, 32, 97, 49, 44, 32, 39, 105, 116, 39, 39, 115, 39, 32, 45, 45, 32, 120]
def wkB : List UInt8 := [57, 50, 50, 51, 51, 55, 50, 48, 51, 54, 56, 53, 52, 55, 55, 53, 56, 48, 56]
def wkT : List (Tk × Nat) := [(⟨1, [115, 101, 108, 101, 99, 116], 0⟩, 0), (⟨1, [97, 49], 0⟩, 7), (⟨5, [44], 0⟩, 9), (⟨3, [105, 116, 39, 115], 0⟩, 11)]
theorem lex_wkA : lexR wkA = .ok wkT := by kernel_rfl
theorem lex_wkB : lexR wkB = .error (0, 20) := by kernel_rfl

set_option maxHeartbeats 4000000 in
theorem key_from (w : World) : Calls Tryz.prog 19 #[.string ⟨#[102, 114, 111, 109]⟩] w fun e w' => e = .returned (.bool true) ∧ w' = w := by
  go_enter Tryz.func19, Tryz.ntmps19
  go_wp2
  go_ret
  exact ⟨rfl, rfl⟩

set_option maxHeartbeats 4000000 in
theorem works_any (w : World) (hw : Rdy w) (hE : ErrT w) :
    Calls Tryz.prog 11 #[] w fun e w' => e = .returned (.bool true) ∧ Below w.heap.size w w' := by
  have C1 := hid (xtok_ok ⟨⟨wkA⟩⟩ wkT w (by decide) hw lex_wkA)
  have C2 := hid (fun w hw => xtok_err ⟨⟨wkB⟩⟩ 0 20 w (by decide) hw lex_wkB)
  have C3 := hid (fun w => key_from w)
  have e1 : wkT.length = 4 := rfl
  rw [e1] at C1
  have HT : Hid (∀ w p, TR w p wkT → ∃ b off, p = some ⟨b, off, none⟩ ∧ w.cell? ⟨b, off + 1, none⟩ = some (.string ⟨#[115, 101, 108, 101, 99, 116]⟩) ∧ w.cell? ⟨b, off + 12, none⟩ = some (.int .i64 3) ∧ w.cell? ⟨b, off + 13, none⟩ = some (.string ⟨#[105, 116, 39, 115]⟩) ∧ w.cell? ⟨b, off + 14, none⟩ = some (.int .i64 11) ∧ w.cell? ⟨b, off + 15, none⟩ = some (.int .i64 0)) := by
    intro w p h
    obtain ⟨b, off, hp, q0, q1, q2, q3⟩ := h.at (i := 0) (by decide)
    obtain ⟨b', off', hp', r0, r1, r2, r3⟩ := h.at (i := 3) (by decide)
    rw [hp] at hp'
    simp only [Option.some.injEq, Addr.mk.injEq, and_true] at hp'
    obtain ⟨rfl, rfl⟩ := hp'
    exact ⟨b, off, hp, q1, r0, r1, r2, r3⟩
  generalize wkT = T at *
  have HW := hid hw
  have HE := hid hE
  clear hw hE e1
  have ea : (⟨⟨wkA⟩⟩ : ByteArray) = ⟨#[83, 69, 76, 69, 67, 84, 32, 97, 49, 44, 32, 39, 105, 116, 39, 39, 115, 39, 32, 45, 45, 32, 120]⟩ := rfl
  have eb : (⟨⟨wkB⟩⟩ : ByteArray) = ⟨#[57, 50, 50, 51, 51, 55, 50, 48, 51, 54, 56, 53, 52, 55, 55, 53, 56, 48, 56]⟩ := rfl
  rw [ea] at C1
  rw [eb] at C2
  clear ea eb
  go_enter Tryz.func11, Tryz.ntmps11
  go_wp2_with (first
    | (go_at_call 7; go_loud (with_reducible refine C1.out.mono ?_); rintro e w1 ⟨p1, c1, rfl, t1, m1, b1⟩; have B1 := hid b1; have T1 := hid t1; clear t1 b1 m1 C1)
    | (go_at_call 7; go_loud (with_reducible refine (C2.out _ (HW.out.below B1.out)).mono ?_); rintro e w2 ⟨b2, rfl, x0, x1, bb⟩
       obtain ⟨q, off, rfl, y0, y1, y2, y3, y4⟩ := HT.out w2 p1 (T1.out.below bb)
       have B2 := hid (B1.out.trans (bb.mono B1.out.size))
       have C4 := hid (seen_fault b2 0 20 w2 (HE.out.below B2.out) x0 x1); clear bb x0 x1)
    | (go_at_call 9; go_loud (with_reducible refine C4.out.mono ?_); rintro e w4 ⟨rfl, b4⟩; have B4 := hid (B2.out.trans (b4.mono B2.out.size)); clear b4)
    | (go_at_call 19; with_reducible refine (C3.out _).mono ?_; rintro e w5 ⟨rfl, hw5⟩; obtain rfl := hw5.symm))
  go_ret
  exact ⟨rfl, B4.out⟩
end Go.Proofs.YtbaemjibaeeglaaGreatDoor
