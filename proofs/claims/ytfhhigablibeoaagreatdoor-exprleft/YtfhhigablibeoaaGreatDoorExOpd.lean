/- What operand of package expr's writer does, if expr does what it must. Conditions: the tables lie in memory as their text lays them; the bytes lie within the reach. -/
import Derived.Test.YtfhhigablibeoaaGreatDoorXM
import Derived.Test.YtfhhigablibeoaaGreatDoorExOkP
namespace Go.Proofs.YtfhhigablibeoaaGreatDoor
open Go.RowKit Go.Lib Go.Sort
set_option linter.unusedVariables false
set_option maxRecDepth 20000

/-- What lay there ahead of the writer, and what the writer may own. -/
structure Cx (w0 w : World) (F : Nat → Prop) : Prop where
  B : Below w0.heap.size w0 w
  F0 : ∀ k, F k → w0.heap.size ≤ k
  F1 : ∀ k, F k → k < w.heap.size
  gl : Gl w0
  rd : Ready w0
theorem Cx.low {w0 w X : World} {F P : Nat → Prop} {b : Nat} {l : List UInt8} (h : Cx w0 w F) (hs : WS F P b l w X) : Below w0.heap.size w0 X := h.B.trans (hs.2.2.below h.F0 h.B.size)
theorem Cx.of {w0 w X : World} {F P G : Nat → Prop} {b : Nat} {l : List UInt8} (h : Cx w0 w F) (hs : WS F P b l w X) (hG : ∀ k, G k → (F k ∨ w.heap.size ≤ k) ∧ k < X.heap.size ∧ ¬ P k) : Cx w0 X G :=
  ⟨h.low hs, fun k q => by
    rcases (hG k q).1 with r | r
    · exact h.F0 k r
    · exact Nat.le_trans h.B.size r, fun k q => (hG k q).2.1, h.gl, h.rd⟩
theorem Cx.gl' {w0 w X : World} {F P : Nat → Prop} {b : Nat} {l : List UInt8} (h : Cx w0 w F) (hs : WS F P b l w X) : Gl X := h.gl.below (h.low hs)
theorem Cx.rd' {w0 w X : World} {F P : Nat → Prop} {b : Nat} {l : List UInt8} (h : Cx w0 w F) (hs : WS F P b l w X) : Ready X := h.rd.below (h.low hs)
/-- An expression is written. -/
def ExprOk (w0 : World) (m : Nat) : Prop := ∀ (w : World) (F : Nat → Prop) (b : Nat) (l : List UInt8) (e : Ex) (p : Option Addr) (c : Nat), Cx w0 w F → WF F b l w → OkE m e → EAt w0 (fun _ => True) m e p → l.length + (prE e).length ≤ 140737488351232 →
  Calls Tryz.prog 21 #[.pointer (some ⟨b, 0, none⟩), .agg #[.int .i64 e.k, .int .i64 e.op, .int .i64 e.v.k, .int .i64 e.v.n, .string e.v.s, .string ⟨e.t.toArray⟩, .string ⟨e.n.toArray⟩, .int .i64 0, .int .i64 0, .slice p e.xs.length c]] w fun r w' => r = .returned (.tuple #[]) ∧ WrE F b (l ++ prE e) w w'
theorem wsExpr {w0 w X : World} {F P : Nat → Prop} {b m : Nat} {l : List UInt8} (HE : ExprOk w0 m) (hc : Cx w0 w F) (hs : WS F P b l w X) (e : Ex) (p : Option Addr) (c : Nat) (ok : OkE m e) (eat : EAt w0 (fun _ => True) m e p) (hlen : l.length + (prE e).length ≤ 140737488351232) :
    Calls Tryz.prog 21 #[.pointer (some ⟨b, 0, none⟩), .agg #[.int .i64 e.k, .int .i64 e.op, .int .i64 e.v.k, .int .i64 e.v.n, .string e.v.s, .string ⟨e.t.toArray⟩, .string ⟨e.n.toArray⟩, .int .i64 0, .int .i64 0, .slice p e.xs.length c]] X fun r Y => r = .returned (.tuple #[]) ∧ WS F P b (l ++ prE e) w Y ∧ ∃ G : Nat → Prop, Chg G X Y ∧ (∀ k, P k → ¬ G k) ∧ (∀ k, G k → F k ∨ w.heap.size ≤ k) :=
  hs.call hc.F1 fun G hG hW => HE X G b l e p c (hc.of hs hG) hW ok eat hlen
set_option maxHeartbeats 4000000 in
theorem operand_any {w0 w : World} {F : Nat → Prop} {b m : Nat} {l : List UInt8} (HE : ExprOk w0 m) (hc : Cx w0 w F) (h : WF F b l w) (e : Ex) (p : Option Addr) (c : Nat) (least : Int) (ok : OkE m e) (eat : EAt w0 (fun _ => True) m e p) (hlen : l.length + (wrapB least (e.line, prE e)).length ≤ 140737488351232) :
    Calls Tryz.prog 44 #[.pointer (some ⟨b, 0, none⟩), .agg #[.int .i64 e.k, .int .i64 e.op, .int .i64 e.v.k, .int .i64 e.v.n, .string e.v.s, .string ⟨e.t.toArray⟩, .string ⟨e.n.toArray⟩, .int .i64 0, .int .i64 0, .slice p e.xs.length c], .int .i64 least] w fun r w' => r = .returned (.tuple #[]) ∧ WrE F b (l ++ wrapB least (e.line, prE e)) w w' := by
  have HX := hid (BG.new w e.k e.op e.v.k e.v.n 0 0 e.v.s ⟨e.t.toArray⟩ ⟨e.n.toArray⟩ p e.xs.length c)
  have S0 := hid ((WS.start h hc.F1).alloc (.cells #[.int .i64 e.k, .int .i64 e.op, .int .i64 e.v.k, .int .i64 e.v.n, .string e.v.s, .string ⟨e.t.toArray⟩, .string ⟨e.n.toArray⟩, .int .i64 0, .int .i64 0, .slice p e.xs.length c] 32))
  have HC := hid hc
  have HEE := hid HE
  have HK := hid ok
  have HA := hid eat
  have HLN := hid (fun w (g : Gl w) => lineof_any e.k e.op e.v.k e.v.n 0 0 e.v.s ⟨e.t.toArray⟩ ⟨e.n.toArray⟩ p e.xs.length c w g)
  have hli : lineB e.k e.op e.xs.length = e.line := rfl
  rw [hli] at HLN
  clear h hc HE ok eat hli
  unfold wrapB at hlen ⊢
  simp only [] at hlen ⊢
  by_cases hle : least ≤ e.line
  · rw [if_pos hle] at hlen ⊢
    have HL := hid hlen
    clear hlen
    go_enter Tryz.func44, Tryz.ntmps44
    go_upto_region 1 with fail
    generalize hW : w.alloc _ = W at *
    clear hW
    have hXl := HX.out.lt
    obtain ⟨x0, x1, x2, x3, x4, x5, x6, x7, x8, x9⟩ := HX.out.cells
    have T1 := hid (HLN.out W (HC.out.gl' S0.out))
    go_wp2_with (first
      | (go_at_call 86; with_reducible refine T1.out.mono ?_; rintro r w2 ⟨rfl, b2⟩
         obtain ⟨y0, y1, y2, y3, y4, y5, y6, y7, y8, y9⟩ := (HX.out.below b2).cells
         have S2 := hid (S0.out.below b2)
         have T2 := hid (wsExpr HEE.out HC.out S2.out e p c HK.out HA.out HL.out)
         clear b2)
      | (go_at_call 21; with_reducible refine T2.out.mono ?_; rintro r w3 ⟨rfl, s3, _⟩; have S3 := hid s3; clear s3)
      | fail)
    exact ret0 rfl rfl ⟨rfl, S3.out.fin⟩
  · rw [if_neg hle] at hlen ⊢
    have hL1 : l.length + [(40 : UInt8)].length ≤ 140737488351232 := by simp at hlen ⊢; omega
    have hL2 : (l ++ [(40 : UInt8)]).length + (prE e).length ≤ 140737488351232 := by simp at hlen ⊢; omega
    have hL3 : (l ++ [(40 : UInt8)] ++ prE e).length + [(41 : UInt8)].length ≤ 140737488351232 := by simp at hlen ⊢; omega
    have HL1 := hid hL1
    have HL2 := hid hL2
    have HL3 := hid hL3
    clear hlen hL1 hL2 hL3
    go_enter Tryz.func44, Tryz.ntmps44
    go_upto_region 1 with fail
    generalize hW : w.alloc _ = W at *
    clear hW
    have hXl := HX.out.lt
    obtain ⟨x0, x1, x2, x3, x4, x5, x6, x7, x8, x9⟩ := HX.out.cells
    have T1 := hid (HLN.out W (HC.out.gl' S0.out))
    go_wp2_with (first
      | (go_at_call 86; with_reducible refine T1.out.mono ?_; rintro r w2 ⟨rfl, b2⟩
         have HX2 := hid (HX.out.below b2)
         have S2 := hid (S0.out.below b2)
         have T2 := hid (S2.out.text HC.out.F1 [[40]] [.string ⟨#[40]⟩] rfl 1 1 rfl (by simpa using HL1.out) (by simp))
         rw [flat1] at T2
         clear b2)
      | (go_at_call 39; with_reducible refine T2.out.mono ?_; rintro r w3 ⟨rfl, s3, G3, c3, g3, _⟩
         have HX3 := hid ((HX2.out.chg (Chg.of_below (F := fun _ => False) (albl w2 _)) id).chg c3 (g3 _ (Or.inl (Or.inr rfl))))
         obtain ⟨y0, y1, y2, y3, y4, y5, y6, y7, y8, y9⟩ := HX3.out.cells
         have T3 := hid (wsExpr HEE.out HC.out s3 e p c HK.out HA.out HL2.out)
         clear s3 c3 g3 T2)
      | (go_at_call 21; with_reducible refine T3.out.mono ?_; rintro r w4 ⟨rfl, s4, _⟩
         have T4 := hid (s4.text HC.out.F1 [[41]] [.string ⟨#[41]⟩] rfl 1 1 rfl (by simpa using HL3.out) (by simp))
         rw [flat1] at T4
         clear s4)
      | (go_at_call 39; with_reducible refine T4.out.mono ?_; rintro r w5 ⟨rfl, s5, _⟩; have S5 := hid s5; clear s5)
      | fail)
    refine end0 rfl rfl ⟨rfl, ?_⟩
    have := S5.out.fin
    simpa using this
theorem wsOperand {w0 w X : World} {F P : Nat → Prop} {b m : Nat} {l : List UInt8} (HE : ExprOk w0 m) (hc : Cx w0 w F) (hs : WS F P b l w X) (e : Ex) (p : Option Addr) (c : Nat) (least : Int) (ok : OkE m e) (eat : EAt w0 (fun _ => True) m e p) (hlen : l.length + (wrapB least (e.line, prE e)).length ≤ 140737488351232) :
    Calls Tryz.prog 44 #[.pointer (some ⟨b, 0, none⟩), .agg #[.int .i64 e.k, .int .i64 e.op, .int .i64 e.v.k, .int .i64 e.v.n, .string e.v.s, .string ⟨e.t.toArray⟩, .string ⟨e.n.toArray⟩, .int .i64 0, .int .i64 0, .slice p e.xs.length c], .int .i64 least] X fun r Y => r = .returned (.tuple #[]) ∧ WS F P b (l ++ wrapB least (e.line, prE e)) w Y ∧ ∃ G : Nat → Prop, Chg G X Y ∧ (∀ k, P k → ¬ G k) ∧ (∀ k, G k → F k ∨ w.heap.size ≤ k) :=
  hs.call hc.F1 fun G hG hW => operand_any HE (hc.of hs hG) hW e p c least ok eat hlen
end Go.Proofs.YtfhhigablibeoaaGreatDoor
