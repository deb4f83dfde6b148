/- What quarryErr of the laws of expressions answers. No conditions. -/
import Derived.Test.YtekapdpfbkdflaaGreatDoorExTk
import Derived.Test.YtekapdpfbkdflaaGreatDoorXS
import Derived.Lib.QuietBelow
namespace Go.Proofs.YtekapdpfbkdflaaGreatDoor
open Go.RowKit Go.Lib Go.Sort
set_option linter.unusedVariables false
set_option maxRecDepth 20000

theorem assert_nil2 (w : World) : (Instr.typeAssert .nilIface 25 50 true).run Tryz.prog w = .ok (.tuple #[.pointer none, .bool false]) w := by kernel_rfl
theorem assert_flt2 (v : Value) (w : World) : (Instr.typeAssert (.iface 50 v) 25 50 true).run Tryz.prog w = .ok (.tuple #[v, .bool true]) w := by kernel_rfl
theorem eql_depth (w : World) : (binOp .eql 25 (.iface 41 (.int .i64 21)) (.iface 41 (.int .i64 21))).run Tryz.prog w = .ok (.bool true) w := by kernel_rfl
theorem quarryErr_nil (w : World) :
    Calls Tryz.prog 14 #[.nilIface] w fun e w' => e = .returned (.bool false) ∧ Below w.heap.size w w' := by
  go_enter Tryz.func14, Tryz.ntmps14
  have hta := assert_nil2
  go_wp2
  go_ret
  exact ⟨rfl, Below.refl _ _⟩
theorem quarryErr_flt (w : World) (b : Nat) (h : w.cell? ⟨b, 1, none⟩ = some (.iface 41 (.int .i64 21))) :
    Calls Tryz.prog 14 #[.iface 50 (.pointer (some ⟨b, 0, none⟩))] w fun e w' => e = .returned (.bool true) ∧ Below w.heap.size w w' := by
  go_enter Tryz.func14, Tryz.ntmps14
  have hta := assert_flt2
  have hed := eql_depth
  go_wp2
  go_ret
  exact ⟨rfl, Below.refl _ _⟩
set_option maxHeartbeats 4000000 in
/-- A text that is no expression. -/
theorem bkt_no (s : ByteArray) (w : World) (hE : Env w) (hs : s.size ≤ 140737488351232) (hno : (∃ z, lexR s.data.toList = .error z) ∨ ∃ T z, lexR s.data.toList = .ok T ∧ (lns 32).orr T = .error z) :
    Calls Tryz.prog 5 #[.string s] w fun e w' => e = .returned (.bool true) ∧ Below w.heap.size w w' := by
  have HE := hid hE
  have CW := hid (works_any w hE)
  rcases hno with ⟨⟨i, n⟩, hl⟩ | ⟨T, ⟨r, n⟩, hl, hr⟩
  · have CT := hid (fun w (h : Env w) => tok_err s i n w hs h.ry hl)
    clear hE hl hs
    go_enter Tryz.func5, Tryz.ntmps5
    go_upto_region 3 with (go_at_call 7; with_reducible refine CW.out.mono ?_; rintro e w1 ⟨rfl, b1⟩; have B1 := hid b1; clear b1)
    have G1 := hid (CT.out w1 (HE.out.below B1.out))
    go_wp2_with (first
      | (go_at_call 11; with_reducible refine G1.out.mono ?_; rintro e w2 ⟨rfl, b2⟩; have B2 := hid (B1.out.trans (b2.mono B1.out.size)); have G2 := hid (read_no none 0 0 0 w2 (Or.inr (Int.le_refl _))); clear b2)
      | (go_at_call 9; with_reducible refine G2.out.mono ?_; rintro e w3 ⟨b3, fb, rfl, f3⟩; have B3 := hid (B2.out.trans (b3.mono B2.out.size)); clear f3 b3)
      | fail)
    go_ret
    exact ⟨rfl, B3.out.trans ((albl w3 _).mono B3.out.size)⟩
  · have CT := hid (fun w (h : Env w) => tok_ok s T w hs h.ry hl)
    have CR := hid (fun w p c (h : Env w) (t : TR w p T) => read0_err (c := c) w t h.gl (lxd_of hl) hr)
    clear hE hl hs hr
    go_enter Tryz.func5, Tryz.ntmps5
    go_upto_region 3 with (go_at_call 7; with_reducible refine CW.out.mono ?_; rintro e w1 ⟨rfl, b1⟩; have B1 := hid b1; clear b1)
    have G1 := hid (CT.out w1 (HE.out.below B1.out))
    go_wp2_with (first
      | (go_at_call 11; with_reducible refine G1.out.mono ?_; rintro e w2 ⟨p2, c2, rfl, t2, b2⟩; have B2 := hid (B1.out.trans (b2.mono B1.out.size)); have G2 := hid (CR.out w2 p2 c2 (HE.out.below B2.out) t2); clear b2 t2)
      | (go_at_call 9; with_reducible refine G2.out.mono ?_; rintro e w3 ⟨fb, rfl, f3, b3⟩; have B3 := hid (B2.out.trans (b3.mono B2.out.size)); clear f3 b3)
      | fail)
    go_ret
    exact ⟨rfl, B3.out.trans ((albl w3 _).mono B3.out.size)⟩
end Go.Proofs.YtekapdpfbkdflaaGreatDoor
