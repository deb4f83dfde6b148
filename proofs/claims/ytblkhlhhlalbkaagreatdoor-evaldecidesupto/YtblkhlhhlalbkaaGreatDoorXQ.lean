/- What operand of package expr's writer does, if expr does what it must. Conditions: the tables lie in memory as their text lays them; the bytes lie within the reach. What pair of package expr's writer does, if expr does what it must. Conditions: the tables lie in memory as their text lays them; the bytes lie within the reach. What call of package expr's writer does, if expr does what it must. Conditions: the tables lie in memory as their text lays them; the bytes lie within the reach. What expr of package expr's writer does. Conditions: the tables lie in memory as their text lays them; the values and the bytes lie within the reach. What expr of package expr's writer does, all in all, and Print. Conditions: the tables lie in memory as their text lays them; the values and the bytes lie within the reach. What Print of package expr answers. Conditions: the tables lie in memory as their text lays them; the values and the bytes lie within the reach. -/
import Derived.Test.YtblkhlhhlalbkaaGreatDoorXO
import Derived.Test.YtblkhlhhlalbkaaGreatDoorEA
import Derived.Test.YtblkhlhhlalbkaaGreatDoorShelf
import Derived.Deep.RegionHeldLaw
import Derived.Deep.DeepHandedRow
namespace Go.Proofs.YtblkhlhhlalbkaaGreatDoor
open Go.RowKit Go.Lib Go.Sort
set_option linter.unusedVariables false
set_option maxRecDepth 20000

/-- What lay there ahead of the writer, and what the writer may own. -/
structure Cx (w0 w : World) (F : Nat → Prop) : Prop where
  B : Below w0.heap.size w0 w
  F0 : ∀ k, F k → w0.heap.size ≤ k
  F1 : ∀ k, F k → k < w.heap.size
  gl : Gl w0
  rd : Ready w0
theorem Cx.low {w0 w X : World} {F P : Nat → Prop} {b : Nat} {l : List UInt8} (h : Cx w0 w F) (hs : WS F P b l w X) : Below w0.heap.size w0 X := h.B.trans (hs.2.2.below h.F0 h.B.size)
theorem Cx.of {w0 w X : World} {F P G : Nat → Prop} {b : Nat} {l : List UInt8} (h : Cx w0 w F) (hs : WS F P b l w X) (hG : ∀ k, G k → (F k ∨ w.heap.size ≤ k) ∧ k < X.heap.size ∧ ¬ P k) : Cx w0 X G :=
  ⟨h.low hs, fun k q => by
    rcases (hG k q).1 with r | r
    · exact h.F0 k r
    · exact Nat.le_trans h.B.size r, fun k q => (hG k q).2.1, h.gl, h.rd⟩
theorem Cx.gl' {w0 w X : World} {F P : Nat → Prop} {b : Nat} {l : List UInt8} (h : Cx w0 w F) (hs : WS F P b l w X) : Gl X := h.gl.below (h.low hs)
theorem Cx.rd' {w0 w X : World} {F P : Nat → Prop} {b : Nat} {l : List UInt8} (h : Cx w0 w F) (hs : WS F P b l w X) : Ready X := h.rd.below (h.low hs)
/-- An expression is written. -/
def ExprOk (w0 : World) (m : Nat) : Prop := ∀ (w : World) (F : Nat → Prop) (b : Nat) (l : List UInt8) (e : Ex) (p : Option Addr) (c : Nat), Cx w0 w F → WF F b l w → OkE m e → EAt w0 (fun _ => True) m e p → l.length + (prE e).length ≤ 140737488351232 →
  Calls Tryz.prog 75 #[.pointer (some ⟨b, 0, none⟩), .agg #[.int .i64 e.k, .int .i64 e.op, .int .i64 e.v.k, .int .i64 e.v.n, .string e.v.s, .string ⟨e.t.toArray⟩, .string ⟨e.n.toArray⟩, .int .i64 0, .int .i64 0, .slice p e.xs.length c]] w fun r w' => r = .returned (.tuple #[]) ∧ WrE F b (l ++ prE e) w w'
theorem wsExpr {w0 w X : World} {F P : Nat → Prop} {b m : Nat} {l : List UInt8} (HE : ExprOk w0 m) (hc : Cx w0 w F) (hs : WS F P b l w X) (e : Ex) (p : Option Addr) (c : Nat) (ok : OkE m e) (eat : EAt w0 (fun _ => True) m e p) (hlen : l.length + (prE e).length ≤ 140737488351232) :
    Calls Tryz.prog 75 #[.pointer (some ⟨b, 0, none⟩), .agg #[.int .i64 e.k, .int .i64 e.op, .int .i64 e.v.k, .int .i64 e.v.n, .string e.v.s, .string ⟨e.t.toArray⟩, .string ⟨e.n.toArray⟩, .int .i64 0, .int .i64 0, .slice p e.xs.length c]] X fun r Y => r = .returned (.tuple #[]) ∧ WS F P b (l ++ prE e) w Y ∧ ∃ G : Nat → Prop, Chg G X Y ∧ (∀ k, P k → ¬ G k) ∧ (∀ k, G k → F k ∨ w.heap.size ≤ k) :=
  hs.call hc.F1 fun G hG hW => HE X G b l e p c (hc.of hs hG) hW ok eat hlen
set_option maxHeartbeats 4000000 in
theorem operand_any {w0 w : World} {F : Nat → Prop} {b m : Nat} {l : List UInt8} (HE : ExprOk w0 m) (hc : Cx w0 w F) (h : WF F b l w) (e : Ex) (p : Option Addr) (c : Nat) (least : Int) (ok : OkE m e) (eat : EAt w0 (fun _ => True) m e p) (hlen : l.length + (wrapB least (e.line, prE e)).length ≤ 140737488351232) :
    Calls Tryz.prog 101 #[.pointer (some ⟨b, 0, none⟩), .agg #[.int .i64 e.k, .int .i64 e.op, .int .i64 e.v.k, .int .i64 e.v.n, .string e.v.s, .string ⟨e.t.toArray⟩, .string ⟨e.n.toArray⟩, .int .i64 0, .int .i64 0, .slice p e.xs.length c], .int .i64 least] w fun r w' => r = .returned (.tuple #[]) ∧ WrE F b (l ++ wrapB least (e.line, prE e)) w w' := by
  have HX := hid (BG.new w e.k e.op e.v.k e.v.n 0 0 e.v.s ⟨e.t.toArray⟩ ⟨e.n.toArray⟩ p e.xs.length c)
  have S0 := hid ((WS.start h hc.F1).alloc (.cells #[.int .i64 e.k, .int .i64 e.op, .int .i64 e.v.k, .int .i64 e.v.n, .string e.v.s, .string ⟨e.t.toArray⟩, .string ⟨e.n.toArray⟩, .int .i64 0, .int .i64 0, .slice p e.xs.length c] 26))
  have HC := hid hc
  have HEE := hid HE
  have HK := hid ok
  have HA := hid eat
  have HLN := hid (fun w (g : Gl w) => lineof_any e.k e.op e.v.k e.v.n 0 0 e.v.s ⟨e.t.toArray⟩ ⟨e.n.toArray⟩ p e.xs.length c w g)
  have hli : lineB e.k e.op e.xs.length = e.line := rfl
  rw [hli] at HLN
  clear h hc HE ok eat hli
  unfold wrapB at hlen ⊢
  simp only [] at hlen ⊢
  by_cases hle : least ≤ e.line
  · rw [if_pos hle] at hlen ⊢
    have HL := hid hlen
    clear hlen
    go_enter Tryz.func101, Tryz.ntmps101
    go_upto_region 1 with fail
    generalize hW : w.alloc _ = W at *
    clear hW
    have hXl := HX.out.lt
    obtain ⟨x0, x1, x2, x3, x4, x5, x6, x7, x8, x9⟩ := HX.out.cells
    have T1 := hid (HLN.out W (HC.out.gl' S0.out))
    go_wp2_with (first
      | (go_at_call 158; with_reducible refine T1.out.mono ?_; rintro r w2 ⟨rfl, b2⟩
         obtain ⟨y0, y1, y2, y3, y4, y5, y6, y7, y8, y9⟩ := (HX.out.below b2).cells
         have S2 := hid (S0.out.below b2)
         have T2 := hid (wsExpr HEE.out HC.out S2.out e p c HK.out HA.out HL.out)
         clear b2)
      | (go_at_call 75; with_reducible refine T2.out.mono ?_; rintro r w3 ⟨rfl, s3, _⟩; have S3 := hid s3; clear s3)
      | fail)
    exact ret0 rfl rfl ⟨rfl, S3.out.fin⟩
  · rw [if_neg hle] at hlen ⊢
    have hL1 : l.length + [(40 : UInt8)].length ≤ 140737488351232 := by simp at hlen ⊢; omega
    have hL2 : (l ++ [(40 : UInt8)]).length + (prE e).length ≤ 140737488351232 := by simp at hlen ⊢; omega
    have hL3 : (l ++ [(40 : UInt8)] ++ prE e).length + [(41 : UInt8)].length ≤ 140737488351232 := by simp at hlen ⊢; omega
    have HL1 := hid hL1
    have HL2 := hid hL2
    have HL3 := hid hL3
    clear hlen hL1 hL2 hL3
    go_enter Tryz.func101, Tryz.ntmps101
    go_upto_region 1 with fail
    generalize hW : w.alloc _ = W at *
    clear hW
    have hXl := HX.out.lt
    obtain ⟨x0, x1, x2, x3, x4, x5, x6, x7, x8, x9⟩ := HX.out.cells
    have T1 := hid (HLN.out W (HC.out.gl' S0.out))
    go_wp2_with (first
      | (go_at_call 158; with_reducible refine T1.out.mono ?_; rintro r w2 ⟨rfl, b2⟩
         have HX2 := hid (HX.out.below b2)
         have S2 := hid (S0.out.below b2)
         have T2 := hid (S2.out.text HC.out.F1 [[40]] [.string ⟨#[40]⟩] rfl 1 1 rfl (by simpa using HL1.out) (by simp))
         rw [flat1] at T2
         clear b2)
      | (go_at_call 96; with_reducible refine T2.out.mono ?_; rintro r w3 ⟨rfl, s3, G3, c3, g3, _⟩
         have HX3 := hid ((HX2.out.chg (Chg.of_below (F := fun _ => False) (albl w2 _)) id).chg c3 (g3 _ (Or.inl (Or.inr rfl))))
         obtain ⟨y0, y1, y2, y3, y4, y5, y6, y7, y8, y9⟩ := HX3.out.cells
         have T3 := hid (wsExpr HEE.out HC.out s3 e p c HK.out HA.out HL2.out)
         clear s3 c3 g3 T2)
      | (go_at_call 75; with_reducible refine T3.out.mono ?_; rintro r w4 ⟨rfl, s4, _⟩
         have T4 := hid (s4.text HC.out.F1 [[41]] [.string ⟨#[41]⟩] rfl 1 1 rfl (by simpa using HL3.out) (by simp))
         rw [flat1] at T4
         clear s4)
      | (go_at_call 96; with_reducible refine T4.out.mono ?_; rintro r w5 ⟨rfl, s5, _⟩; have S5 := hid s5; clear s5)
      | fail)
    refine end0 rfl rfl ⟨rfl, ?_⟩
    have := S5.out.fin
    simpa using this
theorem wsOperand {w0 w X : World} {F P : Nat → Prop} {b m : Nat} {l : List UInt8} (HE : ExprOk w0 m) (hc : Cx w0 w F) (hs : WS F P b l w X) (e : Ex) (p : Option Addr) (c : Nat) (least : Int) (ok : OkE m e) (eat : EAt w0 (fun _ => True) m e p) (hlen : l.length + (wrapB least (e.line, prE e)).length ≤ 140737488351232) :
    Calls Tryz.prog 101 #[.pointer (some ⟨b, 0, none⟩), .agg #[.int .i64 e.k, .int .i64 e.op, .int .i64 e.v.k, .int .i64 e.v.n, .string e.v.s, .string ⟨e.t.toArray⟩, .string ⟨e.n.toArray⟩, .int .i64 0, .int .i64 0, .slice p e.xs.length c], .int .i64 least] X fun r Y => r = .returned (.tuple #[]) ∧ WS F P b (l ++ wrapB least (e.line, prE e)) w Y ∧ ∃ G : Nat → Prop, Chg G X Y ∧ (∀ k, P k → ¬ G k) ∧ (∀ k, G k → F k ∨ w.heap.size ≤ k) :=
  hs.call hc.F1 fun G hG hW => operand_any HE (hc.of hs hG) hW e p c least ok eat hlen
end Go.Proofs.YtblkhlhhlalbkaaGreatDoor
namespace Go.Proofs.YtblkhlhhlalbkaaGreatDoor
open Go.RowKit Go.Lib Go.Sort
set_option linter.unusedVariables false
set_option maxRecDepth 20000

theorem oprs_ok : ∀ o ∈ oprs, (o.txt.length ≤ 3 ∧ ∀ b ∈ o.txt, b.toNat < 128) ∧ 1 ≤ o.line ∧ o.line ≤ 8 := by decide
theorem cals_ok : ∀ o ∈ cals, o.name.length ≤ 8 ∧ (∀ b ∈ o.name, b.toNat < 128) := by decide
theorem opOf_mem {k op : Int} {o : Opr} (h : opOf k op = some o) : o ∈ oprs := List.mem_of_find?_eq_some h
theorem calOf_mem {k op : Int} {o : Cal} (h : calOf k op = some o) : o ∈ cals := List.mem_of_find?_eq_some h
theorem upper_len (l : List UInt8) : (toUpperA l).length = l.length := by simp [toUpperA]
theorem upper_any (l : List UInt8) (hl : l.length ≤ 100) (ha : ∀ b ∈ l, b.toNat < 128) (w : World) : Calls Tryz.prog 100 #[.string ⟨l.toArray⟩] w fun e w' => e = .returned (.string ⟨(toUpperA l).toArray⟩) ∧ Below w.heap.size w w' := by
  have := Tryz.strings_ToUpper_ascii ⟨l.toArray⟩ w (by show l.length ≤ _; omega) (fun j b hj => ha b (List.mem_of_getElem? hj))
  exact this
theorem eat_opd {w0 X : World} {m : Nat} {e : Ex} {p : Option Addr} (h : EAt w0 (fun _ => True) (m + 1) e p) (B : Below w0.heap.size w0 X) {i : Nat} (hi : i < e.xs.length) : ∃ blk off q c, p = some ⟨blk, off, none⟩ ∧ XC X blk (off + i * 10) e.xs[i] q c ∧ EAt w0 (fun _ => True) m e.xs[i] q ∧ blk < w0.heap.size := by
  rcases h with h | ⟨blk, off, hp, _, hc⟩
  · rw [h] at hi; simp at hi
  · obtain ⟨q, c, h1, h2, _⟩ := hc i hi
    exact ⟨blk, off, q, c, hp, h1.chg (F := fun _ => False) (Chg.of_below B) id, h2, cell_lt h1.1⟩
theorem Cx.old {w0 w : World} {F G : Nat → Prop} (h : Cx w0 w F) (hg : ∀ k, G k → F k ∨ w.heap.size ≤ k) {k : Nat} (hk : k < w0.heap.size) : ¬ G k := fun q => by
  have hs := h.B.size
  rcases hg k q with r | r
  · have := h.F0 k r; omega
  · omega
/-- A variable that holds an operator. -/
def OB (w : World) (b : Nat) (o : Opr) : Prop := w.heap[b]? = some (.cells #[.int .i64 o.kind, .int .i64 o.op, .int .i64 o.tok, .string ⟨o.txt.toArray⟩, .int .i64 o.line] 132 (0, 0))
theorem OB.lt {w : World} {b : Nat} {o : Opr} (h : OB w b o) : b < w.heap.size := (Array.getElem?_eq_some_iff.1 h).1
theorem OB.chg {F : Nat → Prop} {w w' : World} {b : Nat} {o : Opr} (h : OB w b o) (C : Chg F w w') (hn : ¬ F b) : OB w' b o := (C.block b h.lt hn).trans h
theorem OB.below {w w' : World} {b : Nat} {o : Opr} (h : OB w b o) (B : Below w.heap.size w w') : OB w' b o := (B.block b h.lt).trans h
theorem OB.cells {w : World} {b : Nat} {o : Opr} (h : OB w b o) : w.cell? ⟨b, 0, none⟩ = some (.int .i64 o.kind) ∧ w.cell? ⟨b, 1, none⟩ = some (.int .i64 o.op) ∧ w.cell? ⟨b, 2, none⟩ = some (.int .i64 o.tok) ∧ w.cell? ⟨b, 3, none⟩ = some (.string ⟨o.txt.toArray⟩) ∧ w.cell? ⟨b, 4, none⟩ = some (.int .i64 o.line) := by
  refine ⟨?_, ?_, ?_, ?_, ?_⟩ <;> (rw [Lib.cell_of_heap h]; rfl)
/-- Two operands and what stands between them. -/
def prP (o : Opr) (x y : Ex) : List UInt8 := wrapB (if o.line = 4 then 5 else o.line) (x.line, prE x) ++ 32 :: (toUpperA o.txt ++ 32 :: wrapB (o.line + 1) (y.line, prE y))
set_option maxHeartbeats 8000000 in
theorem pair_any {w0 w : World} {F : Nat → Prop} {b m : Nat} {l : List UInt8} (HE : ExprOk w0 m) (hc : Cx w0 w F) (h : WF F b l w) (j0 j1 : Int) (op : Int) (v : Val) (t n : List UInt8) (x y : Ex) (p : Option Addr) (c : Nat) (o : Opr) (ho : opOf 4 op = some o) (okx : OkE m x) (oky : OkE m y)
    (eat : EAt w0 (fun _ => True) (m + 1) ⟨4, op, v, t, n, [x, y]⟩ p) (hlen : l.length + (prP o x y).length ≤ 140737488351232) :
    Calls Tryz.prog 102 #[.pointer (some ⟨b, 0, none⟩), .agg #[.int .i64 4, .int .i64 op, .int .i64 v.k, .int .i64 v.n, .string v.s, .string ⟨t.toArray⟩, .string ⟨n.toArray⟩, .int .i64 j0, .int .i64 j1, .slice p 2 c]] w fun r w' => r = .returned (.tuple #[]) ∧ WrE F b (l ++ prP o x y) w w' := by
  have HX := hid (BG.new w 4 op v.k v.n j0 j1 v.s ⟨t.toArray⟩ ⟨n.toArray⟩ p 2 c)
  have S0 := hid ((WS.start h hc.F1).alloc (.cells #[.int .i64 4, .int .i64 op, .int .i64 v.k, .int .i64 v.n, .string v.s, .string ⟨t.toArray⟩, .string ⟨n.toArray⟩, .int .i64 j0, .int .i64 j1, .slice p 2 c] 26))
  have HC := hid hc
  have HEE := hid HE
  have HKx := hid okx
  have HKy := hid oky
  have HA0 := hid (fun X (B : Below w0.heap.size w0 X) => eat_opd eat B (i := 0) (by simp))
  have HA1 := hid (fun X (B : Below w0.heap.size w0 X) => eat_opd eat B (i := 1) (by simp))
  have HOP := hid (fun w (g : Gl w) => operatorOf_any 4 op v.k v.n j0 j1 v.s ⟨t.toArray⟩ ⟨n.toArray⟩ p 2 c w g)
  rw [ho] at HOP
  unfold oprO at HOP
  simp only [Option.isSome_some] at HOP
  have hmem := oprs_ok o (opOf_mem ho)
  have HU := hid (fun w => upper_any o.txt (by omega) hmem.1.2 w)
  have hl1 := hmem.2.1
  have hl8 := hmem.2.2
  clear h hc HE okx oky eat ho hmem
  obtain ⟨lf, hlf⟩ : ∃ lf, lf = (if o.line = 4 then 5 else o.line) := ⟨_, rfl⟩
  unfold prP at hlen ⊢
  rw [← hlf] at hlen ⊢
  have hwr : IntKind.i64.wrap (o.line + 1) = o.line + 1 := by rw [IntKind.wrap_i64]; omega
  have hL1 : l.length + (wrapB lf (x.line, prE x)).length ≤ 140737488351232 := by simp at hlen ⊢; omega
  have hL2 : (l ++ wrapB lf (x.line, prE x)).length + ([32] ++ (toUpperA o.txt ++ [32])).length ≤ 140737488351232 := by simp at hlen ⊢; omega
  have hL3 : (l ++ wrapB lf (x.line, prE x) ++ ([32] ++ (toUpperA o.txt ++ [32]))).length + (wrapB (o.line + 1) (y.line, prE y)).length ≤ 140737488351232 := by simp at hlen ⊢; omega
  have HL1 := hid hL1
  have HL2 := hid hL2
  have HL3 := hid hL3
  clear hlen hL1 hL2 hL3
  go_enter Tryz.func102, Tryz.ntmps102
  go_upto_region 1 with fail
  generalize hW : w.alloc _ = W at *
  clear hW
  have hXl := HX.out.lt
  obtain ⟨x0, x1, x2, x3, x4, x5, x6, x7, x8, x9⟩ := HX.out.cells
  have T1 := hid (HOP.out W (HC.out.gl' S0.out))
  go_upto_region 2 with (go_at_call 99; with_reducible refine T1.out.mono ?_; rintro r w2 ⟨rfl, b2⟩
                         have HX2 := hid (HX.out.below b2)
                         have S2 := hid (S0.out.below b2)
                         clear b2 x0 x1 x2 x3 x4 x5 x6 x7 x8 x9)
  have S3 := hid (S2.out.alloc (.cells #[.int .i64 o.kind, .int .i64 o.op, .int .i64 o.tok, .string ⟨o.txt.toArray⟩, .int .i64 o.line] 132))
  have HX3 := hid (HX2.out.below (albl w2 (.cells #[.int .i64 o.kind, .int .i64 o.op, .int .i64 o.tok, .string ⟨o.txt.toArray⟩, .int .i64 o.line] 132)))
  have HO3 := hid (show OB (w2.alloc (.cells #[.int .i64 o.kind, .int .i64 o.op, .int .i64 o.tok, .string ⟨o.txt.toArray⟩, .int .i64 o.line] 132)) w2.heap.size o from heap_alloc_new w2 _)
  generalize hW3 : w2.alloc _ = W3 at *
  clear hW3 hXl
  have hX3l := HX3.out.lt
  have hO3l := HO3.out.lt
  obtain ⟨x0, x1, x2, x3, x4, x5, x6, x7, x8, x9⟩ := HX3.out.cells
  obtain ⟨o0, o1, o2, o3, o4⟩ := HO3.out.cells
  obtain ⟨blk, off, q, cx, rfl, hx, ex, hblk⟩ := HA0.out W3 (HC.out.low S3.out)
  simp only [Nat.zero_mul, Nat.add_zero, List.getElem_cons_zero] at hx ex
  obtain ⟨a0, a1, a2, a3, a4, a5, a6, a7, a8, a9⟩ := hx
  have T3 := hid (wsOperand HEE.out HC.out S3.out x q cx lf HKx.out ex HL1.out)
  clear ex
  by_cases h4 : o.line = 4
  · have e4 : (o.line == 4) = true := by rw [h4]; rfl
    rw [if_pos h4] at hlf
    subst hlf
    clear h4
    go_upto_region 7 with (first
      | (go_at_call 101; with_reducible refine T3.out.mono ?_; rintro r w4 ⟨rfl, s4, G4, c4, g4, _⟩
         have HX4 := hid (HX3.out.chg c4 (g4 _ (Or.inl (Or.inr rfl))))
         have HO4 := hid (HO3.out.chg c4 (g4 _ (Or.inr rfl)))
         have S4 := hid s4
         obtain ⟨p0, p1, p2, p3, p4⟩ := HO4.out.cells
         have T4 := hid (HU.out w4)
         clear s4 c4 g4)
      | (go_at_call 100; with_reducible refine T4.out.mono ?_; rintro r w5 ⟨rfl, b5⟩
         have HX5 := hid (HX4.out.below b5)
         have HO5 := hid (HO4.out.below b5)
         have S5 := hid (S4.out.below b5)
         have T5 := hid (S5.out.text HC.out.F1 [[32], toUpperA o.txt, [32]] [.string ⟨#[32]⟩, .string ⟨(toUpperA o.txt).toArray⟩, .string ⟨#[32]⟩] rfl 3 3 rfl (by have := HL2.out; simp at this ⊢; omega) (by simp))
         rw [flat3] at T5
         clear b5)
      | (go_at_call 96; with_reducible refine T5.out.mono ?_; rintro r w6 ⟨rfl, s6, G6, c6, g6, g6f⟩
         have HX6 := hid ((HX5.out.chg (Chg.of_below (F := fun _ => False) (albl w5 _)) id).chg c6 (g6 _ (Or.inl (Or.inl (Or.inr rfl)))))
         have HO6 := hid ((HO5.out.chg (Chg.of_below (F := fun _ => False) (albl w5 _)) id).chg c6 (g6 _ (Or.inl (Or.inr rfl))))
         have S6 := hid s6
         have S6d := hid (s6.below (Below.drew (Below.refl _ _)))
         clear s6 c6 g6 g6f)
      | fail)
    obtain ⟨blk', off', q', cx', ep, hx', ex', _⟩ := HA1.out w6 (HC.out.low S6.out)
    simp only [Option.some.injEq, Addr.mk.injEq, and_true] at ep
    obtain ⟨rfl, rfl⟩ := ep
    simp only [Nat.one_mul, List.getElem_cons_succ, List.getElem_cons_zero] at hx' ex'
    have T7 := hid (wsOperand HEE.out HC.out S6d.out y q' cx' (o.line + 1) HKy.out ex' HL3.out)
    have hcell : Hid (∀ (G : Nat → Prop) w7, Chg G w6.drew w7 → (∀ k, ((((False ∨ k = w.heap.size) ∨ k = w2.heap.size) ∨ k = w5.heap.size) → ¬ G k)) → ¬ G blk → (fun w' => w'.cell? ⟨w.heap.size, 9, none⟩ = some (.slice (some ⟨blk, off, none⟩) 2 c) ∧ w'.cell? ⟨blk, off + 10, none⟩ = some (.int .i64 y.k) ∧ w'.cell? ⟨blk, off + 10 + 1, none⟩ = some (.int .i64 y.op) ∧ w'.cell? ⟨blk, off + 10 + 2, none⟩ = some (.int .i64 y.v.k) ∧ w'.cell? ⟨blk, off + 10 + 3, none⟩ = some (.int .i64 y.v.n) ∧ w'.cell? ⟨blk, off + 10 + 4, none⟩ = some (.string y.v.s) ∧ w'.cell? ⟨blk, off + 10 + 5, none⟩ = some (.string ⟨y.t.toArray⟩) ∧ w'.cell? ⟨blk, off + 10 + 6, none⟩ = some (.string ⟨y.n.toArray⟩) ∧ w'.cell? ⟨blk, off + 10 + 7, none⟩ = some (.int .i64 0) ∧ w'.cell? ⟨blk, off + 10 + 8, none⟩ = some (.int .i64 0) ∧ w'.cell? ⟨blk, off + 10 + 9, none⟩ = some (.slice q' y.xs.length cx') ∧ w'.cell? ⟨w2.heap.size, 4, none⟩ = some (.int .i64 o.line)) w7) := fun G w7 c7 g7 gb => by
      have X7 := (HX6.out.below (w' := w6.drew) (Below.drew (Below.refl _ _))).chg c7 (g7 _ (Or.inl (Or.inl (Or.inr rfl))))
      have O7 := (HO6.out.below (w' := w6.drew) (Below.drew (Below.refl _ _))).chg c7 (g7 _ (Or.inl (Or.inr rfl)))
      have E7 := (hx'.chg (F := fun _ => False) (w' := w6.drew) (Chg.of_below (Below.drew (Below.refl _ _))) id).chg c7 gb
      obtain ⟨e0, e1, e2, e3, e4, e5, e6, e7, e8, e9⟩ := E7
      exact ⟨X7.cells.2.2.2.2.2.2.2.2.2, e0, e1, e2, e3, e4, e5, e6, e7, e8, e9, O7.cells.2.2.2.2⟩
    have K6 := hid (hcell.out (fun _ => False) w6.drew (Chg.refl _ _) (fun _ _ => id) id)
    clear hx' ex'
    go_region_held_law (fun w' => w'.cell? ⟨w.heap.size, 9, none⟩ = some (.slice (some ⟨blk, off, none⟩) 2 c) ∧ w'.cell? ⟨blk, off + 10, none⟩ = some (.int .i64 y.k) ∧ w'.cell? ⟨blk, off + 10 + 1, none⟩ = some (.int .i64 y.op) ∧ w'.cell? ⟨blk, off + 10 + 2, none⟩ = some (.int .i64 y.v.k) ∧ w'.cell? ⟨blk, off + 10 + 3, none⟩ = some (.int .i64 y.v.n) ∧ w'.cell? ⟨blk, off + 10 + 4, none⟩ = some (.string y.v.s) ∧ w'.cell? ⟨blk, off + 10 + 5, none⟩ = some (.string ⟨y.t.toArray⟩) ∧ w'.cell? ⟨blk, off + 10 + 6, none⟩ = some (.string ⟨y.n.toArray⟩) ∧ w'.cell? ⟨blk, off + 10 + 7, none⟩ = some (.int .i64 0) ∧ w'.cell? ⟨blk, off + 10 + 8, none⟩ = some (.int .i64 0) ∧ w'.cell? ⟨blk, off + 10 + 9, none⟩ = some (.slice q' y.xs.length cx') ∧ w'.cell? ⟨w2.heap.size, 4, none⟩ = some (.int .i64 o.line)) (first | exact K6.out | exact K7.out) (first
      | (go_at_call 101; with_reducible refine T7.out.mono ?_; rintro r w7 ⟨rfl, s7, G7, c7, g7, g7f⟩; have S7 := hid s7; have K7 := hid (hcell.out G7 w7 c7 g7 (HC.out.old g7f hblk)); clear s7 c7 g7 g7f))
    go_wp2_with fail
    refine end0 rfl rfl ⟨rfl, ?_⟩
    have := S7.out.fin
    simpa using this
  · have e4 : (o.line == 4) = false := beq_eq_false_iff_ne.2 h4
    rw [if_neg h4] at hlf
    subst hlf
    clear h4
    go_upto_region 7 with (first
      | (go_at_call 101; with_reducible refine T3.out.mono ?_; rintro r w4 ⟨rfl, s4, G4, c4, g4, _⟩
         have HX4 := hid (HX3.out.chg c4 (g4 _ (Or.inl (Or.inr rfl))))
         have HO4 := hid (HO3.out.chg c4 (g4 _ (Or.inr rfl)))
         have S4 := hid s4
         obtain ⟨p0, p1, p2, p3, p4⟩ := HO4.out.cells
         have T4 := hid (HU.out w4)
         clear s4 c4 g4)
      | (go_at_call 100; with_reducible refine T4.out.mono ?_; rintro r w5 ⟨rfl, b5⟩
         have HX5 := hid (HX4.out.below b5)
         have HO5 := hid (HO4.out.below b5)
         have S5 := hid (S4.out.below b5)
         have T5 := hid (S5.out.text HC.out.F1 [[32], toUpperA o.txt, [32]] [.string ⟨#[32]⟩, .string ⟨(toUpperA o.txt).toArray⟩, .string ⟨#[32]⟩] rfl 3 3 rfl (by have := HL2.out; simp at this ⊢; omega) (by simp))
         rw [flat3] at T5
         clear b5)
      | (go_at_call 96; with_reducible refine T5.out.mono ?_; rintro r w6 ⟨rfl, s6, G6, c6, g6, g6f⟩
         have HX6 := hid ((HX5.out.chg (Chg.of_below (F := fun _ => False) (albl w5 _)) id).chg c6 (g6 _ (Or.inl (Or.inl (Or.inr rfl)))))
         have HO6 := hid ((HO5.out.chg (Chg.of_below (F := fun _ => False) (albl w5 _)) id).chg c6 (g6 _ (Or.inl (Or.inr rfl))))
         have S6 := hid s6
         have S6d := hid (s6.below (Below.drew (Below.refl _ _)))
         clear s6 c6 g6 g6f)
      | fail)
    obtain ⟨blk', off', q', cx', ep, hx', ex', _⟩ := HA1.out w6 (HC.out.low S6.out)
    simp only [Option.some.injEq, Addr.mk.injEq, and_true] at ep
    obtain ⟨rfl, rfl⟩ := ep
    simp only [Nat.one_mul, List.getElem_cons_succ, List.getElem_cons_zero] at hx' ex'
    have T7 := hid (wsOperand HEE.out HC.out S6d.out y q' cx' (o.line + 1) HKy.out ex' HL3.out)
    have hcell : Hid (∀ (G : Nat → Prop) w7, Chg G w6.drew w7 → (∀ k, ((((False ∨ k = w.heap.size) ∨ k = w2.heap.size) ∨ k = w5.heap.size) → ¬ G k)) → ¬ G blk → (fun w' => w'.cell? ⟨w.heap.size, 9, none⟩ = some (.slice (some ⟨blk, off, none⟩) 2 c) ∧ w'.cell? ⟨blk, off + 10, none⟩ = some (.int .i64 y.k) ∧ w'.cell? ⟨blk, off + 10 + 1, none⟩ = some (.int .i64 y.op) ∧ w'.cell? ⟨blk, off + 10 + 2, none⟩ = some (.int .i64 y.v.k) ∧ w'.cell? ⟨blk, off + 10 + 3, none⟩ = some (.int .i64 y.v.n) ∧ w'.cell? ⟨blk, off + 10 + 4, none⟩ = some (.string y.v.s) ∧ w'.cell? ⟨blk, off + 10 + 5, none⟩ = some (.string ⟨y.t.toArray⟩) ∧ w'.cell? ⟨blk, off + 10 + 6, none⟩ = some (.string ⟨y.n.toArray⟩) ∧ w'.cell? ⟨blk, off + 10 + 7, none⟩ = some (.int .i64 0) ∧ w'.cell? ⟨blk, off + 10 + 8, none⟩ = some (.int .i64 0) ∧ w'.cell? ⟨blk, off + 10 + 9, none⟩ = some (.slice q' y.xs.length cx') ∧ w'.cell? ⟨w2.heap.size, 4, none⟩ = some (.int .i64 o.line)) w7) := fun G w7 c7 g7 gb => by
      have X7 := (HX6.out.below (w' := w6.drew) (Below.drew (Below.refl _ _))).chg c7 (g7 _ (Or.inl (Or.inl (Or.inr rfl))))
      have O7 := (HO6.out.below (w' := w6.drew) (Below.drew (Below.refl _ _))).chg c7 (g7 _ (Or.inl (Or.inr rfl)))
      have E7 := (hx'.chg (F := fun _ => False) (w' := w6.drew) (Chg.of_below (Below.drew (Below.refl _ _))) id).chg c7 gb
      obtain ⟨e0, e1, e2, e3, e4, e5, e6, e7, e8, e9⟩ := E7
      exact ⟨X7.cells.2.2.2.2.2.2.2.2.2, e0, e1, e2, e3, e4, e5, e6, e7, e8, e9, O7.cells.2.2.2.2⟩
    have K6 := hid (hcell.out (fun _ => False) w6.drew (Chg.refl _ _) (fun _ _ => id) id)
    clear hx' ex'
    go_region_held_law (fun w' => w'.cell? ⟨w.heap.size, 9, none⟩ = some (.slice (some ⟨blk, off, none⟩) 2 c) ∧ w'.cell? ⟨blk, off + 10, none⟩ = some (.int .i64 y.k) ∧ w'.cell? ⟨blk, off + 10 + 1, none⟩ = some (.int .i64 y.op) ∧ w'.cell? ⟨blk, off + 10 + 2, none⟩ = some (.int .i64 y.v.k) ∧ w'.cell? ⟨blk, off + 10 + 3, none⟩ = some (.int .i64 y.v.n) ∧ w'.cell? ⟨blk, off + 10 + 4, none⟩ = some (.string y.v.s) ∧ w'.cell? ⟨blk, off + 10 + 5, none⟩ = some (.string ⟨y.t.toArray⟩) ∧ w'.cell? ⟨blk, off + 10 + 6, none⟩ = some (.string ⟨y.n.toArray⟩) ∧ w'.cell? ⟨blk, off + 10 + 7, none⟩ = some (.int .i64 0) ∧ w'.cell? ⟨blk, off + 10 + 8, none⟩ = some (.int .i64 0) ∧ w'.cell? ⟨blk, off + 10 + 9, none⟩ = some (.slice q' y.xs.length cx') ∧ w'.cell? ⟨w2.heap.size, 4, none⟩ = some (.int .i64 o.line)) (first | exact K6.out | exact K7.out) (first
      | (go_at_call 101; with_reducible refine T7.out.mono ?_; rintro r w7 ⟨rfl, s7, G7, c7, g7, g7f⟩; have S7 := hid s7; have K7 := hid (hcell.out G7 w7 c7 g7 (HC.out.old g7f hblk)); clear s7 c7 g7 g7f))
    go_wp2_with fail
    refine end0 rfl rfl ⟨rfl, ?_⟩
    have := S7.out.fin
    simpa using this
end Go.Proofs.YtblkhlhhlalbkaaGreatDoor
namespace Go.Proofs.YtblkhlhhlalbkaaGreatDoor
open Go.RowKit Go.Lib Go.Sort
set_option linter.unusedVariables false
set_option maxRecDepth 20000

theorem joinT_app : ∀ a b, joinC.joinT (a ++ b) = joinC.joinT a ++ joinC.joinT b
  | [], b => rfl
  | x :: a, b => by simp [joinC.joinT, joinT_app a b]
theorem joinC_app {a : List (Int × List UInt8)} (h : a ≠ []) (b : List (Int × List UInt8)) : joinC (a ++ b) = joinC a ++ joinC.joinT b := by
  cases a with
  | nil => exact absurd rfl h
  | cons x a => simp [joinC, joinT_app]
theorem join_le (ts : List (Int × List UInt8)) (k : Nat) : (joinC (ts.take k)).length ≤ (joinC ts).length := by
  by_cases h : ts.take k = []
  · rw [h]; simp [joinC]
  · have := joinC_app h (ts.drop k)
    rw [List.take_append_drop] at this
    rw [this]
    simp
theorem join_succ (xs : List Ex) (k : Nat) (h : k < xs.length) : joinC ((xs.map fun x : Ex => (x.line, prE x)).take (k + 1)) = joinC ((xs.map fun x : Ex => (x.line, prE x)).take k) ++ (if k = 0 then prE xs[k] else 44 :: 32 :: prE xs[k]) := by
  have hk : k < (xs.map fun x : Ex => (x.line, prE x)).length := by simpa using h
  rw [List.take_succ_eq_append_getElem hk]
  by_cases h0 : k = 0
  · subst h0
    simp [joinC, joinC.joinT]
  · rw [if_neg h0, joinC_app (by
      intro e
      have := congrArg List.length e
      rw [List.length_take, List.length_map] at this
      simp only [List.length_nil] at this
      omega)]
    simp [joinC.joinT]
/-- A variable that holds a call. -/
def CB0 (w : World) (b : Nat) (o : Cal) : Prop := w.heap[b]? = some (.cells #[.int .i64 o.kind, .int .i64 o.op, .string ⟨o.name.toArray⟩, .int .i64 (o.cnt : Int)] 161 (0, 0))
theorem CB0.cells {w : World} {b : Nat} {o : Cal} (h : CB0 w b o) : w.cell? ⟨b, 0, none⟩ = some (.int .i64 o.kind) ∧ w.cell? ⟨b, 1, none⟩ = some (.int .i64 o.op) ∧ w.cell? ⟨b, 2, none⟩ = some (.string ⟨o.name.toArray⟩) ∧ w.cell? ⟨b, 3, none⟩ = some (.int .i64 (o.cnt : Int)) := by
  refine ⟨?_, ?_, ?_, ?_⟩ <;> (rw [Lib.cell_of_heap h]; rfl)
/-- A call as it is written. -/
def prC (o : Cal) (xs : List Ex) : List UInt8 := toUpperA o.name ++ 40 :: ((if xs.isEmpty then [42] else joinC (xs.map fun x : Ex => (x.line, prE x))) ++ [41])
set_option maxHeartbeats 16000000 in
theorem wcall_any {w0 w : World} {F : Nat → Prop} {b m : Nat} {l : List UInt8} (xs : List Ex) (HE : xs ≠ [] → ExprOk w0 m) (hc : Cx w0 w F) (h : WF F b l w) (j0 j1 : Int) (k0 op : Int) (v : Val) (t n : List UInt8) (p : Option Addr) (c : Nat) (o : Cal) (ho : calOf k0 op = some o) (oks : ∀ x ∈ xs, OkE m x) (hxl : xs.length ≤ 3)
    (eat : EAt w0 (fun _ => True) (m + 1) ⟨k0, op, v, t, n, xs⟩ p) (hlen : l.length + (prC o xs).length ≤ 140737488351232) :
    Calls Tryz.prog 104 #[.pointer (some ⟨b, 0, none⟩), .agg #[.int .i64 k0, .int .i64 op, .int .i64 v.k, .int .i64 v.n, .string v.s, .string ⟨t.toArray⟩, .string ⟨n.toArray⟩, .int .i64 j0, .int .i64 j1, .slice p xs.length c]] w fun r w' => r = .returned (.tuple #[]) ∧ WrE F b (l ++ prC o xs) w w' := by
  have HX := hid (BG.new w k0 op v.k v.n j0 j1 v.s ⟨t.toArray⟩ ⟨n.toArray⟩ p xs.length c)
  have S0 := hid ((WS.start h hc.F1).alloc (.cells #[.int .i64 k0, .int .i64 op, .int .i64 v.k, .int .i64 v.n, .string v.s, .string ⟨t.toArray⟩, .string ⟨n.toArray⟩, .int .i64 j0, .int .i64 j1, .slice p xs.length c] 26))
  have HC := hid hc
  have HEN := hid HE
  have HKS := hid oks
  have HA := hid (fun X k (hk : k < xs.length) (B : Below w0.heap.size w0 X) => eat_opd eat B (i := k) hk)
  have HOP := hid (fun w (g : Gl w) => callOf_any k0 op v.k v.n j0 j1 v.s ⟨t.toArray⟩ ⟨n.toArray⟩ p xs.length c w g)
  rw [ho] at HOP
  unfold calO at HOP
  simp only [Option.isSome_some] at HOP
  have hmem := cals_ok o (calOf_mem ho)
  have HU := hid (fun w => upper_any o.name (by omega) hmem.2 w)
  clear h hc HE oks eat ho hmem
  obtain ⟨st, hst⟩ : ∃ st : List UInt8, st = (if xs.isEmpty then [42] else []) := ⟨_, rfl⟩
  have HTOT : Hid (l ++ prC o xs = l ++ (toUpperA o.name ++ [40]) ++ st ++ joinC (xs.map fun x : Ex => (x.line, prE x)) ++ [41]) := by
    show _ = _
    rw [hst]
    unfold prC
    cases xs with
    | nil => simp [joinC]
    | cons a r => simp
  have hL0 : l.length + (toUpperA o.name ++ [40]).length + st.length + (joinC (xs.map fun x : Ex => (x.line, prE x))).length + 1 ≤ 140737488351232 := by
    have := congrArg List.length HTOT.out
    simp only [List.length_append, List.length_cons, List.length_nil] at this hlen ⊢
    omega
  have HL0 := hid hL0
  clear hlen hL0
  go_enter Tryz.func104, Tryz.ntmps104
  go_upto_region 1 with fail
  generalize hW : w.alloc _ = W at *
  clear hW
  have hXl := HX.out.lt
  obtain ⟨x0, x1, x2, x3, x4, x5, x6, x7, x8, x9⟩ := HX.out.cells
  have T1 := hid (HOP.out W (HC.out.gl' S0.out))
  go_upto_region 2 with (go_at_call 147; with_reducible refine T1.out.mono ?_; rintro r w2 ⟨rfl, b2⟩
                         have HX2 := hid (HX.out.below b2)
                         have S2 := hid (S0.out.below b2)
                         clear b2 x0 x1 x2 x3 x4 x5 x6 x7 x8 x9)
  have S3 := hid (S2.out.alloc (.cells #[.int .i64 o.kind, .int .i64 o.op, .string ⟨o.name.toArray⟩, .int .i64 (o.cnt : Int)] 161))
  have HX3 := hid (HX2.out.below (albl w2 (.cells #[.int .i64 o.kind, .int .i64 o.op, .string ⟨o.name.toArray⟩, .int .i64 (o.cnt : Int)] 161)))
  have HO3 := hid (show CB0 (w2.alloc (.cells #[.int .i64 o.kind, .int .i64 o.op, .string ⟨o.name.toArray⟩, .int .i64 (o.cnt : Int)] 161)) w2.heap.size o from heap_alloc_new w2 _)
  generalize hW3 : w2.alloc _ = W3 at *
  clear hW3 hXl
  have hX3l := HX3.out.lt
  obtain ⟨x0, x1, x2, x3, x4, x5, x6, x7, x8, x9⟩ := HX3.out.cells
  obtain ⟨o0, o1, o2, o3⟩ := HO3.out.cells
  have TU := hid (HU.out W3)
  go_upto_region 3 with (first
    | (go_at_call 100; with_reducible refine TU.out.mono ?_; rintro r w4 ⟨rfl, b4⟩
       have HX4 := hid (HX3.out.below b4)
       have S4 := hid (S3.out.below b4)
       have T5 := hid (S4.out.text HC.out.F1 [toUpperA o.name, [40]] [.string ⟨(toUpperA o.name).toArray⟩, .string ⟨#[40]⟩] rfl 2 2 rfl (by have := HL0.out; simp at this ⊢; omega) (by simp))
       rw [flat2] at T5
       clear b4 x0 x1 x2 x3 x4 x5 x6 x7 x8 x9)
    | (go_at_call 96; with_reducible refine T5.out.mono ?_; rintro r w5 ⟨rfl, s5, G5, c5, g5, _⟩
       have HX5 := hid ((HX4.out.chg (Chg.of_below (F := fun _ => False) (albl w4 _)) id).chg c5 (g5 _ (Or.inl (Or.inl (Or.inr rfl)))))
       have S5 := hid s5
       clear s5 c5 g5)
    | fail)
  obtain ⟨x0, x1, x2, x3, x4, x5, x6, x7, x8, x9⟩ := HX5.out.cells
  cases hem : xs.isEmpty with
  | true =>
    have hz : ((xs.length : Int) == 0) = true := by simp [List.isEmpty_iff.1 hem]
    rw [hem, if_pos rfl] at hst
    subst hst
    have T6 := hid (S5.out.text HC.out.F1 [[42]] [.string ⟨#[42]⟩] rfl 1 1 rfl (by have := HL0.out; simp at this ⊢; omega) (by simp))
    rw [flat1] at T6
    go_upto_region 5 with (first
      | (go_at_call 96; with_reducible refine T6.out.mono ?_; rintro r w6 ⟨rfl, s6, G6, c6, g6, _⟩
         have HX6 := hid ((HX5.out.chg (Chg.of_below (F := fun _ => False) (albl w5 _)) id).chg c6 (g6 _ (Or.inl (Or.inl (Or.inl (Or.inr rfl))))))
         have SL := hid s6
         clear s6 c6 g6)
      | fail)
    clear x0 x1 x2 x3 x4 x5 x6 x7 x8 x9
    obtain ⟨x0, x1, x2, x3, x4, x5, x6, x7, x8, x9⟩ := HX6.out.cells
    have hLT : (l ++ (toUpperA o.name ++ [40]) ++ [42]).length + (joinC (xs.map fun x : Ex => (x.line, prE x)) ++ [41]).length ≤ 140737488351232 := by have := HL0.out; simp at this ⊢; omega
    generalize l ++ (toUpperA o.name ++ [40]) ++ [42] = l1 at *
    have HLT := hid hLT
    clear hLT
    go_upto_region 5 with fail
    go_wp2_with fail
    go_loopw [29] (fun i wr => ∃ k : Nat, k ≤ xs.length ∧ i = .int .i64 (k : Int) ∧ Hid (∃ P, WS F P b (l1 ++ joinC ((xs.map fun x : Ex => (x.line, prE x)).take k)) w wr)) (fun i _ => xs.length - (RowKit.intOf i).toNat)
    case atStart => exact ⟨0, Nat.zero_le _, rfl, _, by simpa [joinC] using SL.out⟩
    case round =>
      obtain ⟨k, hk, rfl, hS⟩ := hrel
      obtain ⟨P, hS'⟩ := hS.out
      have SK := hid hS'
      clear hS hS'
      by_cases hx : k < xs.length
      · exfalso
        rw [List.isEmpty_iff.1 hem] at hx
        simp at hx
      · have hxi : ¬ (k : Int) < (xs.length : Int) := by omega
        obtain rfl : k = xs.length := by omega
        have hT : (xs.map fun x : Ex => (x.line, prE x)).take xs.length = xs.map fun x : Ex => (x.line, prE x) := by rw [List.take_of_length_le (by simp)]
        have SE := hid SK.out
        rw [hT] at SE
        have T1 := hid (SE.out.text HC.out.F1 [[41]] [.string ⟨#[41]⟩] rfl 1 1 rfl (by have := HLT.out; simp only [List.length_append] at this ⊢; simp at this ⊢; omega) (by simp))
        rw [flat1] at T1
        clear hT SK
        go_wp2_with (first
          | (go_at_call 96; with_reducible refine T1.out.mono ?_; rintro r w8 ⟨rfl, s8, _⟩; have S8 := hid s8; clear s8)
          | fail)
        refine end0 rfl rfl ⟨rfl, ?_⟩
        have := S8.out.fin
        rw [HTOT.out]
        simpa using this
  | false =>
    have hz : ((xs.length : Int) == 0) = false := by
      have hne : xs ≠ [] := by intro e; rw [e] at hem; simp at hem
      have := List.length_pos_iff.2 hne
      exact beq_eq_false_iff_ne.2 (by omega)
    rw [hem, if_neg (by simp)] at hst
    subst hst
    have HEE := hid (HEN.out (by intro e; rw [e] at hem; simp at hem))
    have SL := hid S5.out
    have hLT : (l ++ (toUpperA o.name ++ [40])).length + (joinC (xs.map fun x : Ex => (x.line, prE x)) ++ [41]).length ≤ 140737488351232 := by have := HL0.out; simp at this ⊢; omega
    rw [List.append_nil] at HTOT
    generalize l ++ (toUpperA o.name ++ [40]) = l1 at *
    have HLT := hid hLT
    clear hLT
    go_upto_region 5 with fail
    go_wp2_with fail
    go_loopw [29] (fun i wr => ∃ k : Nat, k ≤ xs.length ∧ i = .int .i64 (k : Int) ∧ Hid (∃ P, WS F P b (l1 ++ joinC ((xs.map fun x : Ex => (x.line, prE x)).take k)) w wr)) (fun i _ => xs.length - (RowKit.intOf i).toNat)
    case atStart => exact ⟨0, Nat.zero_le _, rfl, _, by simpa [joinC] using SL.out⟩
    case round =>
      obtain ⟨k, hk, rfl, hS⟩ := hrel
      obtain ⟨P, hS'⟩ := hS.out
      have SK := hid hS'
      clear hS hS'
      by_cases hx : k < xs.length
      · have hxi : (k : Int) < (xs.length : Int) := by omega
        obtain ⟨blk, off, q, cx, rfl, hxc, ex, hblk⟩ := HA.out wr k hx (HC.out.low SK.out)
        obtain ⟨a0, a1, a2, a3, a4, a5, a6, a7, a8, a9⟩ := hxc
        have hblr : blk < wr.heap.size := cell_lt a0
        have SB := hid (SK.out.alloc (.cells #[.int .i64 xs[k].k, .int .i64 xs[k].op, .int .i64 xs[k].v.k, .int .i64 xs[k].v.n, .string xs[k].v.s, .string ⟨xs[k].t.toArray⟩, .string ⟨xs[k].n.toArray⟩, .int .i64 0, .int .i64 0, .slice q xs[k].xs.length cx] 26))
        have HXB := hid (BG.new wr xs[k].k xs[k].op xs[k].v.k xs[k].v.n 0 0 xs[k].v.s ⟨xs[k].t.toArray⟩ ⟨xs[k].n.toArray⟩ q xs[k].xs.length cx)
        have hcell := HXB.out.cells
        have HKx := hid (HKS.out xs[k] (List.getElem_mem hx))
        have HEX := hid ex
        clear ex
        have hJ := join_le (xs.map fun x : Ex => (x.line, prE x)) (k + 1)
        by_cases hk0 : k = 0
        · subst hk0
          simp only [Nat.zero_mul, Nat.add_zero] at a0 a1 a2 a3 a4 a5 a6 a7 a8 a9
          have hJT : l1 ++ joinC ((xs.map fun x : Ex => (x.line, prE x)).take 0) ++ prE xs[0] = l1 ++ joinC ((xs.map fun x : Ex => (x.line, prE x)).take (0 + 1)) := by
            rw [join_succ _ _ (by simpa using hx), if_pos rfl]
            simp
          have HJT := hid hJT
          have hB1 : (l1 ++ joinC ((xs.map fun x : Ex => (x.line, prE x)).take 0)).length + (prE xs[0]).length ≤ 140737488351232 := by
            have h1 := congrArg List.length hJT
            have h2 := HLT.out
            simp only [List.length_append] at h1 h2 ⊢
            omega
          have T1 := hid (wsExpr HEE.out HC.out SB.out xs[0] q cx HKx.out HEX.out hB1)
          clear hJT hB1 hJ
          go_upto_region 8 with fail
          generalize hW8 : World.alloc wr _ = W8 at *
          clear hW8
          obtain ⟨e0, e1, e2, e3, e4, e5, e6, e7, e8, e9⟩ := hcell
          go_wp2_with (first
            | (go_at_call 75; with_reducible refine T1.out.mono ?_; rintro r w9 ⟨rfl, s9, _⟩; have S9 := hid s9; clear s9)
            | fail)
          go_roundw
          case rel => exact ⟨0 + 1, by omega, by go_num, _, by rw [← HJT.out]; exact S9.out⟩
          case measure => simp [RowKit.intOf]; omega
        · have hi0 : (0 : Int) < (k : Int) := by omega
          have hJT : l1 ++ joinC ((xs.map fun x : Ex => (x.line, prE x)).take k) ++ [44, 32] ++ prE xs[k] = l1 ++ joinC ((xs.map fun x : Ex => (x.line, prE x)).take (k + 1)) := by
            rw [join_succ _ _ (by simpa using hx), if_neg hk0]
            simp
          have HJT := hid hJT
          have hB0 : (l1 ++ joinC ((xs.map fun x : Ex => (x.line, prE x)).take k)).length + [(44 : UInt8), 32].length + (prE xs[k]).length ≤ 140737488351232 := by
            have h1 := congrArg List.length hJT
            have h2 := HLT.out
            simp only [List.length_append] at h1 h2 ⊢
            omega
          have HB0 := hid hB0
          clear hJT hB0 hJ
          go_upto_region 8 with fail
          generalize hW8 : World.alloc wr _ = W8 at *
          clear hW8
          have hXBl := HXB.out.lt
          have T1 := hid (SB.out.text HC.out.F1 [[44, 32]] [.string ⟨#[44, 32]⟩] rfl 1 1 rfl (by have := HB0.out; simp at this ⊢; omega) (by simp))
          rw [flat1] at T1
          go_wp2_with (first
            | (go_at_call 96; with_reducible refine T1.out.mono ?_; rintro r w8 ⟨rfl, s8, G8, c8, g8, _⟩
               have HX8 := hid ((HXB.out.chg (Chg.of_below (F := fun _ => False) (albl W8 _)) id).chg c8 (g8 _ (Or.inl (Or.inr rfl))))
               obtain ⟨e0, e1, e2, e3, e4, e5, e6, e7, e8, e9⟩ := HX8.out.cells
               have T2 := hid (wsExpr HEE.out HC.out s8 xs[k] q cx HKx.out HEX.out (by have := HB0.out; simp only [List.length_append] at this ⊢; omega))
               clear s8 c8 g8)
            | (go_at_call 75; with_reducible refine T2.out.mono ?_; rintro r w9 ⟨rfl, s9, _⟩; have S9 := hid s9; clear s9)
            | fail)
          go_roundw
          case rel => exact ⟨k + 1, by omega, by go_num, _, by rw [← HJT.out]; exact S9.out⟩
          case measure => simp [RowKit.intOf]; omega
      · have hxi : ¬ (k : Int) < (xs.length : Int) := by omega
        obtain rfl : k = xs.length := by omega
        have hT : (xs.map fun x : Ex => (x.line, prE x)).take xs.length = xs.map fun x : Ex => (x.line, prE x) := by rw [List.take_of_length_le (by simp)]
        have SE := hid SK.out
        rw [hT] at SE
        have T1 := hid (SE.out.text HC.out.F1 [[41]] [.string ⟨#[41]⟩] rfl 1 1 rfl (by have := HLT.out; simp only [List.length_append] at this ⊢; simp at this ⊢; omega) (by simp))
        rw [flat1] at T1
        clear hT SK
        go_wp2_with (first
          | (go_at_call 96; with_reducible refine T1.out.mono ?_; rintro r w8 ⟨rfl, s8, _⟩; have S8 := hid s8; clear s8)
          | fail)
        refine end0 rfl rfl ⟨rfl, ?_⟩
        have := S8.out.fin
        rw [HTOT.out]
        simpa using this
end Go.Proofs.YtblkhlhhlalbkaaGreatDoor
namespace Go.Proofs.YtblkhlhhlalbkaaGreatDoor
open Go.RowKit Go.Lib Go.Sort
set_option linter.unusedVariables false
set_option maxRecDepth 20000

/-- What is handed to expr. -/
def StepOk (w0 : World) (j0 j1 : Int) (k op : Int) (v : Val) (t n : List UInt8) (xs : List Ex) : Prop := ∀ (w : World) (F : Nat → Prop) (b : Nat) (l : List UInt8) (p : Option Addr) (c m : Nat), Cx w0 w F → WF F b l w → (xs ≠ [] → ExprOk w0 m) → (∀ x ∈ xs, OkE m x) → EAt w0 (fun _ => True) (m + 1) ⟨k, op, v, t, n, xs⟩ p → l.length + (prE ⟨k, op, v, t, n, xs⟩).length ≤ 140737488351232 →
  Calls Tryz.prog 75 #[.pointer (some ⟨b, 0, none⟩), .agg #[.int .i64 k, .int .i64 op, .int .i64 v.k, .int .i64 v.n, .string v.s, .string ⟨t.toArray⟩, .string ⟨n.toArray⟩, .int .i64 j0, .int .i64 j1, .slice p xs.length c]] w fun r w' => r = .returned (.tuple #[]) ∧ WrE F b (l ++ prE ⟨k, op, v, t, n, xs⟩) w w'
theorem prE_mk (k op : Int) (v : Val) (t n : List UInt8) (xs : List Ex) : prE ⟨k, op, v, t, n, xs⟩ = prB k op v t n (xs.map fun x => (x.line, prE x)) := prE_eq _
set_option maxHeartbeats 4000000 in
theorem step_no (w0 : World) (j0 j1 : Int) (k op : Int) (v : Val) (t n : List UInt8) (xs : List Ex) (hf : fitsB k op xs.length = false) : StepOk w0 j0 j1 k op v t n xs := by
  intro w F b l p c m hc h _ _ _ _
  have hp : prE ⟨k, op, v, t, n, xs⟩ = [] := by
    rw [prE_mk]
    unfold prB
    rw [List.length_map, if_pos hf]
  rw [hp, List.append_nil]
  have S0 := hid ((WS.start h hc.F1).alloc (.cells #[.int .i64 k, .int .i64 op, .int .i64 v.k, .int .i64 v.n, .string v.s, .string ⟨t.toArray⟩, .string ⟨n.toArray⟩, .int .i64 j0, .int .i64 j1, .slice p xs.length c] 26))
  have T1 := hid (fits_any k op v.k v.n j0 j1 v.s ⟨t.toArray⟩ ⟨n.toArray⟩ p xs.length c _ (hc.gl' S0.out))
  unfold FitsOk at T1
  rw [hf] at T1
  clear hc h hp hf
  go_enter Tryz.func75, Tryz.ntmps75
  go_wp2_with (first
    | (go_at_call 95; with_reducible refine T1.out.mono ?_; rintro r w2 ⟨rfl, b2⟩; have S2 := hid (S0.out.below b2); clear b2)
    | fail)
  exact ret0 rfl rfl ⟨rfl, S2.out.fin⟩
set_option maxHeartbeats 8000000 in
theorem step_lit (w0 : World) (j0 j1 : Int) (op : Int) (v : Val) (t n : List UInt8) (xs : List Ex) (hf : fitsB 1 op xs.length = true) (hv : v.s.size ≤ 2147483648 ∧ -9223372036854775808 ≤ v.n ∧ v.n ≤ 9223372036854775807) : StepOk w0 j0 j1 1 op v t n xs := by
  intro w F b l p c m hc h HE oks eat hlen
  have hp : prE ⟨1, op, v, t, n, xs⟩ = litV v := by
    rw [prE_mk]
    unfold prB
    rw [List.length_map, if_neg (by rw [hf]; simp)]
    rfl
  rw [hp] at hlen ⊢
  have HX := hid (BG.new w 1 op v.k v.n j0 j1 v.s ⟨t.toArray⟩ ⟨n.toArray⟩ p xs.length c)
  have S0 := hid ((WS.start h hc.F1).alloc (.cells #[.int .i64 1, .int .i64 op, .int .i64 v.k, .int .i64 v.n, .string v.s, .string ⟨t.toArray⟩, .string ⟨n.toArray⟩, .int .i64 j0, .int .i64 j1, .slice p xs.length c] 26))
  have T1 := hid (fits_any 1 op v.k v.n j0 j1 v.s ⟨t.toArray⟩ ⟨n.toArray⟩ p xs.length c _ (hc.gl' S0.out))
  unfold FitsOk at T1
  rw [hf] at T1
  have HC := hid hc
  have HL := hid hlen
  have HF := hid hf
  have HV := hid hv
  clear hc h HE oks eat hlen hp hf hv
  go_enter Tryz.func75, Tryz.ntmps75
  go_upto_region 1 with fail
  generalize hW : w.alloc _ = W at *
  clear hW
  have hXl := HX.out.lt
  obtain ⟨x0, x1, x2, x3, x4, x5, x6, x7, x8, x9⟩ := HX.out.cells
  have HLT := hid (fun w (r : Ready w) => literal_any v w r HV.out.1 HV.out.2.1 HV.out.2.2)
  unfold Val.v at HLT
  go_wp2_with (first
    | (go_at_call 95; with_reducible refine T1.out.mono ?_; rintro r w2 ⟨rfl, b2⟩; have S2 := hid (S0.out.below b2); have HX2 := hid (HX.out.below b2); obtain ⟨y0, y1, y2, y3, y4, y5, y6, y7, y8, y9⟩ := HX2.out.cells; have T2 := hid (HLT.out w2 (HC.out.rd' S2.out)); clear b2)
    | (go_at_call 97; with_reducible refine T2.out.mono ?_; rintro r w3 ⟨rfl, b3⟩
       have T3 := hid ((S2.out.below b3).text HC.out.F1 [litV v] [.string ⟨(litV v).toArray⟩] rfl 1 1 rfl (by simpa using HL.out) (by simp))
       rw [flat1] at T3
       clear b3)
    | (go_at_call 96; with_reducible refine T3.out.mono ?_; rintro r w4 ⟨rfl, s4, _⟩; have S4 := hid s4; clear s4)
    | fail)
  exact end0 rfl rfl ⟨rfl, S4.out.fin⟩
set_option maxHeartbeats 8000000 in
theorem step_col (w0 : World) (j0 j1 : Int) (op : Int) (v : Val) (t n : List UInt8) (xs : List Ex) (hf : fitsB 2 op xs.length = true) : StepOk w0 j0 j1 2 op v t n xs := by
  intro w F b l p c m hc h HE oks eat hlen
  have hp : prE ⟨2, op, v, t, n, xs⟩ = colB t n := by
    rw [prE_mk]
    unfold prB
    rw [List.length_map, if_neg (by rw [hf]; simp)]
    rfl
  rw [hp] at hlen ⊢
  have HX := hid (BG.new w 2 op v.k v.n j0 j1 v.s ⟨t.toArray⟩ ⟨n.toArray⟩ p xs.length c)
  have S0 := hid ((WS.start h hc.F1).alloc (.cells #[.int .i64 2, .int .i64 op, .int .i64 v.k, .int .i64 v.n, .string v.s, .string ⟨t.toArray⟩, .string ⟨n.toArray⟩, .int .i64 j0, .int .i64 j1, .slice p xs.length c] 26))
  have T1 := hid (fits_any 2 op v.k v.n j0 j1 v.s ⟨t.toArray⟩ ⟨n.toArray⟩ p xs.length c _ (hc.gl' S0.out))
  unfold FitsOk at T1
  rw [hf] at T1
  have HC := hid hc
  have HL := hid hlen
  have HF := hid hf
  clear hc h HE oks eat hlen hp hf
  go_enter Tryz.func75, Tryz.ntmps75
  go_upto_region 1 with fail
  generalize hW : w.alloc _ = W at *
  clear hW
  have hXl := HX.out.lt
  obtain ⟨x0, x1, x2, x3, x4, x5, x6, x7, x8, x9⟩ := HX.out.cells
  go_wp2_with (first
    | (go_at_call 95; with_reducible refine T1.out.mono ?_; rintro r w2 ⟨rfl, b2⟩; have S2 := hid (S0.out.below b2); have HX2 := hid (HX.out.below b2); obtain ⟨y0, y1, y2, y3, y4, y5, y6, y7, y8, y9⟩ := HX2.out.cells; have T2 := hid (S2.out.call (m' := l ++ colB t n) HC.out.F1 fun G hG hW => wcolumn_any 2 op v.k v.n j0 j1 v.s t n p xs.length c hW (fun k q => (hG k q).2.1) HL.out); clear b2)
    | (go_at_call 98; with_reducible refine T2.out.mono ?_; rintro r w4 ⟨rfl, s4, _⟩; have S4 := hid s4; clear s4)
    | fail)
  exact end0 rfl rfl ⟨rfl, S4.out.fin⟩
theorem two_of {xs : List Ex} (h : xs.length = 2) : ∃ x y, xs = [x, y] := by
  match xs, h with
  | [x, y], _ => exact ⟨x, y, rfl⟩
theorem one_of {xs : List Ex} (h : xs.length = 1) : ∃ x, xs = [x] := by
  match xs, h with
  | [x], _ => exact ⟨x, rfl⟩
set_option maxHeartbeats 8000000 in
theorem step_two (w0 : World) (j0 j1 : Int) (op : Int) (v : Val) (t n : List UInt8) (x y : Ex) (o : Opr) (ho : opOf 4 op = some o) : StepOk w0 j0 j1 4 op v t n [x, y] := by
  intro w F b l p c m hc h HE oks eat hlen
  have hf : fitsB 4 op 2 = true := by simp [fitsB, ho]
  have hp : prE ⟨4, op, v, t, n, [x, y]⟩ = prP o x y := by
    rw [prE_mk]
    unfold prB
    rw [List.length_map, if_neg (by rw [show [x, y].length = 2 from rfl, hf]; simp), if_neg (by decide), if_neg (by decide), if_neg (by decide), if_pos rfl, ho]
    rfl
  rw [hp] at hlen ⊢
  have HX := hid (BG.new w 4 op v.k v.n j0 j1 v.s ⟨t.toArray⟩ ⟨n.toArray⟩ p 2 c)
  have S0 := hid ((WS.start h hc.F1).alloc (.cells #[.int .i64 4, .int .i64 op, .int .i64 v.k, .int .i64 v.n, .string v.s, .string ⟨t.toArray⟩, .string ⟨n.toArray⟩, .int .i64 j0, .int .i64 j1, .slice p 2 c] 26))
  have T1 := hid (fits_any 4 op v.k v.n j0 j1 v.s ⟨t.toArray⟩ ⟨n.toArray⟩ p 2 c _ (hc.gl' S0.out))
  unfold FitsOk at T1
  rw [hf] at T1
  have HC := hid hc
  have HL := hid hlen
  have HEE := hid (HE (by simp))
  have HKx := hid (oks x (by simp))
  have HKy := hid (oks y (by simp))
  have HA := hid eat
  have HO := hid ho
  clear hc h HE oks eat hlen hp hf ho
  go_enter Tryz.func75, Tryz.ntmps75
  go_upto_region 1 with fail
  generalize hW : w.alloc _ = W at *
  clear hW
  have hXl := HX.out.lt
  obtain ⟨x0, x1, x2, x3, x4, x5, x6, x7, x8, x9⟩ := HX.out.cells
  go_wp2_with (first
    | (go_at_call 95; with_reducible refine T1.out.mono ?_; rintro r w2 ⟨rfl, b2⟩; have S2 := hid (S0.out.below b2); have HX2 := hid (HX.out.below b2); obtain ⟨y0, y1, y2, y3, y4, y5, y6, y7, y8, y9⟩ := HX2.out.cells; have T2 := hid (S2.out.call (m' := l ++ prP o x y) HC.out.F1 fun G hG hW => pair_any HEE.out (HC.out.of S2.out hG) hW j0 j1 op v t n x y p c o HO.out HKx.out HKy.out HA.out HL.out); clear b2)
    | (go_at_call 102; with_reducible refine T2.out.mono ?_; rintro r w4 ⟨rfl, s4, _⟩; have S4 := hid s4; clear s4)
    | fail)
  exact end0 rfl rfl ⟨rfl, S4.out.fin⟩
theorem fits_cal {k op : Int} {n : Nat} (hk : k = 5 ∨ k = 6) (hf : fitsB k op n = true) : ∃ o, calOf k op = some o := by
  unfold fitsB at hf
  rw [if_neg (by omega), if_neg (by omega), if_neg (by omega), if_neg (by omega), if_pos hk] at hf
  cases hc : calOf k op with
  | none => rw [hc] at hf; cases hf
  | some o => exact ⟨o, rfl⟩
theorem prE_cal {k op : Int} {v : Val} {t n : List UInt8} {xs : List Ex} (hk : k = 5 ∨ k = 6) (hf : fitsB k op xs.length = true) {o : Cal} (ho : calOf k op = some o) : prE ⟨k, op, v, t, n, xs⟩ = prC o xs := by
  rw [prE_mk]
  unfold prB
  rw [List.length_map, if_neg (by rw [hf]; simp), if_neg (by omega), if_neg (by omega), if_neg (by omega), if_neg (by omega), if_neg (by omega), ho]
  unfold prC
  simp only [List.isEmpty_map]
set_option maxHeartbeats 8000000 in
theorem step_cal5 (w0 : World) (j0 j1 : Int) (op : Int) (v : Val) (t n : List UInt8) (xs : List Ex) (o : Cal) (ho : calOf 5 op = some o) (hf : fitsB 5 op xs.length = true) (hxl : xs.length ≤ 3) : StepOk w0 j0 j1 5 op v t n xs := by
  intro w F b l p c m hc h HE oks eat hlen
  have hp : prE ⟨5, op, v, t, n, xs⟩ = prC o xs := prE_cal (by decide) hf ho
  rw [hp] at hlen ⊢
  have HX := hid (BG.new w 5 op v.k v.n j0 j1 v.s ⟨t.toArray⟩ ⟨n.toArray⟩ p xs.length c)
  have S0 := hid ((WS.start h hc.F1).alloc (.cells #[.int .i64 5, .int .i64 op, .int .i64 v.k, .int .i64 v.n, .string v.s, .string ⟨t.toArray⟩, .string ⟨n.toArray⟩, .int .i64 j0, .int .i64 j1, .slice p xs.length c] 26))
  have T1 := hid (fits_any 5 op v.k v.n j0 j1 v.s ⟨t.toArray⟩ ⟨n.toArray⟩ p xs.length c _ (hc.gl' S0.out))
  unfold FitsOk at T1
  rw [hf] at T1
  have HC := hid hc
  have HL := hid hlen
  have HF := hid hf
  have HEE := hid HE
  have HKS := hid oks
  have HA := hid eat
  have HO := hid ho
  have HXL := hid hxl
  clear hc h HE oks eat hlen hp hf ho hxl
  go_enter Tryz.func75, Tryz.ntmps75
  go_upto_region 1 with fail
  generalize hW : w.alloc _ = W at *
  clear hW
  have hXl := HX.out.lt
  obtain ⟨x0, x1, x2, x3, x4, x5, x6, x7, x8, x9⟩ := HX.out.cells
  go_wp2_with (first
    | (go_at_call 95; with_reducible refine T1.out.mono ?_; rintro r w2 ⟨rfl, b2⟩; have S2 := hid (S0.out.below b2); have HX2 := hid (HX.out.below b2); obtain ⟨y0, y1, y2, y3, y4, y5, y6, y7, y8, y9⟩ := HX2.out.cells; have T2 := hid (S2.out.call (m' := l ++ prC o xs) HC.out.F1 fun G hG hW => wcall_any xs HEE.out (HC.out.of S2.out hG) hW j0 j1 5 op v t n p c o HO.out HKS.out HXL.out HA.out HL.out); clear b2)
    | (go_at_call 104; with_reducible refine T2.out.mono ?_; rintro r w4 ⟨rfl, s4, _⟩; have S4 := hid s4; clear s4)
    | fail)
  exact end0 rfl rfl ⟨rfl, S4.out.fin⟩
set_option maxHeartbeats 8000000 in
theorem step_cal6 (w0 : World) (j0 j1 : Int) (op : Int) (v : Val) (t n : List UInt8) (xs : List Ex) (o : Cal) (ho : calOf 6 op = some o) (hf : fitsB 6 op xs.length = true) (hxl : xs.length ≤ 3) : StepOk w0 j0 j1 6 op v t n xs := by
  intro w F b l p c m hc h HE oks eat hlen
  have hp : prE ⟨6, op, v, t, n, xs⟩ = prC o xs := prE_cal (by decide) hf ho
  rw [hp] at hlen ⊢
  have HX := hid (BG.new w 6 op v.k v.n j0 j1 v.s ⟨t.toArray⟩ ⟨n.toArray⟩ p xs.length c)
  have S0 := hid ((WS.start h hc.F1).alloc (.cells #[.int .i64 6, .int .i64 op, .int .i64 v.k, .int .i64 v.n, .string v.s, .string ⟨t.toArray⟩, .string ⟨n.toArray⟩, .int .i64 j0, .int .i64 j1, .slice p xs.length c] 26))
  have T1 := hid (fits_any 6 op v.k v.n j0 j1 v.s ⟨t.toArray⟩ ⟨n.toArray⟩ p xs.length c _ (hc.gl' S0.out))
  unfold FitsOk at T1
  rw [hf] at T1
  have HC := hid hc
  have HL := hid hlen
  have HF := hid hf
  have HEE := hid HE
  have HKS := hid oks
  have HA := hid eat
  have HO := hid ho
  have HXL := hid hxl
  clear hc h HE oks eat hlen hp hf ho hxl
  go_enter Tryz.func75, Tryz.ntmps75
  go_upto_region 1 with fail
  generalize hW : w.alloc _ = W at *
  clear hW
  have hXl := HX.out.lt
  obtain ⟨x0, x1, x2, x3, x4, x5, x6, x7, x8, x9⟩ := HX.out.cells
  go_wp2_with (first
    | (go_at_call 95; with_reducible refine T1.out.mono ?_; rintro r w2 ⟨rfl, b2⟩; have S2 := hid (S0.out.below b2); have HX2 := hid (HX.out.below b2); obtain ⟨y0, y1, y2, y3, y4, y5, y6, y7, y8, y9⟩ := HX2.out.cells; have T2 := hid (S2.out.call (m' := l ++ prC o xs) HC.out.F1 fun G hG hW => wcall_any xs HEE.out (HC.out.of S2.out hG) hW j0 j1 6 op v t n p c o HO.out HKS.out HXL.out HA.out HL.out); clear b2)
    | (go_at_call 104; with_reducible refine T2.out.mono ?_; rintro r w4 ⟨rfl, s4, _⟩; have S4 := hid s4; clear s4)
    | fail)
  exact end0 rfl rfl ⟨rfl, S4.out.fin⟩
set_option maxHeartbeats 8000000 in
theorem step_null (w0 : World) (j0 j1 : Int) (op : Int) (v : Val) (t n : List UInt8) (x : Ex) (hf : fitsB 7 op 1 = true) : StepOk w0 j0 j1 7 op v t n [x] := by
  intro w F b l p c m hc h HE oks eat hlen
  have hp : prE ⟨7, op, v, t, n, [x]⟩ = wrapB 5 (x.line, prE x) ++ nullB op := by
    rw [prE_mk]
    unfold prB
    rw [List.length_map, if_neg (by rw [show [x].length = 1 from rfl, hf]; simp)]
    rfl
  rw [hp] at hlen ⊢
  have HX := hid (BG.new w 7 op v.k v.n j0 j1 v.s ⟨t.toArray⟩ ⟨n.toArray⟩ p 1 c)
  have S0 := hid ((WS.start h hc.F1).alloc (.cells #[.int .i64 7, .int .i64 op, .int .i64 v.k, .int .i64 v.n, .string v.s, .string ⟨t.toArray⟩, .string ⟨n.toArray⟩, .int .i64 j0, .int .i64 j1, .slice p 1 c] 26))
  have T1 := hid (fits_any 7 op v.k v.n j0 j1 v.s ⟨t.toArray⟩ ⟨n.toArray⟩ p 1 c _ (hc.gl' S0.out))
  unfold FitsOk at T1
  rw [hf] at T1
  have HC := hid hc
  have HL := hid hlen
  have HEE := hid (HE (by simp))
  have HKx := hid (oks x (by simp))
  have HA := hid (fun X (B : Below w0.heap.size w0 X) => eat_opd eat B (i := 0) (by simp))
  have HNT := hid (fun w => nulltest_any op w)
  clear hc h HE oks eat hlen hp hf
  go_enter Tryz.func75, Tryz.ntmps75
  go_upto_region 1 with fail
  generalize hW : w.alloc _ = W at *
  clear hW
  have hXl := HX.out.lt
  obtain ⟨x0, x1, x2, x3, x4, x5, x6, x7, x8, x9⟩ := HX.out.cells
  go_upto_region 14 with (first
    | (go_at_call 95; with_reducible refine T1.out.mono ?_; rintro r w2 ⟨rfl, b2⟩; have S2 := hid (S0.out.below b2); have HX2 := hid (HX.out.below b2); obtain ⟨y0, y1, y2, y3, y4, y5, y6, y7, y8, y9⟩ := HX2.out.cells; skip; clear b2)
    | fail)
  obtain ⟨blk, off, q, cx, rfl, hx, ex, hblk⟩ := HA.out w2 (HC.out.low S2.out)
  simp only [Nat.zero_mul, Nat.add_zero, List.getElem_cons_zero] at hx ex
  obtain ⟨a0, a1, a2, a3, a4, a5, a6, a7, a8, a9⟩ := hx
  have T3 := hid (wsOperand HEE.out HC.out S2.out x q cx 5 HKx.out ex (by have := HL.out; rw [List.length_append] at this; omega))
  go_wp2_with (first
    | (go_at_call 101; with_reducible refine T3.out.mono ?_; rintro r w4 ⟨rfl, s4, G4, c4, g4, _⟩
       have HX4 := hid (HX2.out.chg c4 (g4 _ (Or.inr rfl)))
       obtain ⟨z0, z1, z2, z3, z4, z5, z6, z7, z8, z9⟩ := HX4.out.cells
       have S4 := hid s4
       clear s4 c4 g4)
    | (go_at_call 103; with_reducible refine (HNT.out _).mono ?_; rintro r w5 ⟨rfl, hw5⟩; obtain rfl := hw5.symm
       have T5 := hid (S4.out.text HC.out.F1 [nullB op] [.string ⟨(nullB op).toArray⟩] rfl 1 1 rfl (by have := HL.out; simp only [List.length_append] at this ⊢; simp; omega) (by simp))
       rw [flat1] at T5)
    | (go_at_call 96; with_reducible refine T5.out.mono ?_; rintro r w6 ⟨rfl, s6, _⟩; have S6 := hid s6; clear s6)
    | fail)
  refine end0 rfl rfl ⟨rfl, ?_⟩
  have := S6.out.fin
  simpa using this
end Go.Proofs.YtblkhlhhlalbkaaGreatDoor
namespace Go.Proofs.YtblkhlhhlalbkaaGreatDoor
open Go.RowKit Go.Lib Go.Sort
set_option linter.unusedVariables false
set_option maxRecDepth 20000

set_option maxHeartbeats 8000000 in
theorem step_one (w0 : World) (j0 j1 : Int) (op : Int) (v : Val) (t n : List UInt8) (x : Ex) (o : Opr) (ho : opOf 3 op = some o) : StepOk w0 j0 j1 3 op v t n [x] := by
  intro w F b l p c m hc h HE oks eat hlen
  have hf : fitsB 3 op 1 = true := by simp [fitsB, ho]
  have hp : prE ⟨3, op, v, t, n, [x]⟩ = toUpperA o.txt ++ 32 :: wrapB o.line (x.line, prE x) := by
    rw [prE_mk]
    unfold prB
    rw [List.length_map, if_neg (by rw [show [x].length = 1 from rfl, hf]; simp), if_neg (by decide), if_neg (by decide), if_pos rfl, ho]
    rfl
  rw [hp] at hlen ⊢
  have HX := hid (BG.new w 3 op v.k v.n j0 j1 v.s ⟨t.toArray⟩ ⟨n.toArray⟩ p 1 c)
  have S0 := hid ((WS.start h hc.F1).alloc (.cells #[.int .i64 3, .int .i64 op, .int .i64 v.k, .int .i64 v.n, .string v.s, .string ⟨t.toArray⟩, .string ⟨n.toArray⟩, .int .i64 j0, .int .i64 j1, .slice p 1 c] 26))
  have T1 := hid (fits_any 3 op v.k v.n j0 j1 v.s ⟨t.toArray⟩ ⟨n.toArray⟩ p 1 c _ (hc.gl' S0.out))
  unfold FitsOk at T1
  rw [hf] at T1
  have HC := hid hc
  have HEE := hid (HE (by simp))
  have HKx := hid (oks x (by simp))
  have HA := hid (fun X (B : Below w0.heap.size w0 X) => eat_opd eat B (i := 0) (by simp))
  have HOP := hid (fun w (g : Gl w) => operatorOf_any 3 op v.k v.n j0 j1 v.s ⟨t.toArray⟩ ⟨n.toArray⟩ p 1 c w g)
  rw [ho] at HOP
  unfold oprO at HOP
  simp only [Option.isSome_some] at HOP
  have hmem := oprs_ok o (opOf_mem ho)
  have HU := hid (fun w => upper_any o.txt (by omega) hmem.1.2 w)
  have hL2 : l.length + (toUpperA o.txt ++ [32]).length ≤ 140737488351232 := by simp at hlen ⊢; omega
  have hL3 : (l ++ (toUpperA o.txt ++ [32])).length + (wrapB o.line (x.line, prE x)).length ≤ 140737488351232 := by simp at hlen ⊢; omega
  have HL2 := hid hL2
  have HL3 := hid hL3
  clear hc h HE oks eat hlen hp hf ho hmem hL2 hL3
  go_enter Tryz.func75, Tryz.ntmps75
  go_upto_region 1 with fail
  generalize hW : w.alloc _ = W at *
  clear hW
  have hXl := HX.out.lt
  obtain ⟨x0, x1, x2, x3, x4, x5, x6, x7, x8, x9⟩ := HX.out.cells
  go_upto_region 9 with (first
    | (go_at_call 95; with_reducible refine T1.out.mono ?_; rintro r w2 ⟨rfl, b2⟩; have S2 := hid (S0.out.below b2); have HX2 := hid (HX.out.below b2); obtain ⟨y0, y1, y2, y3, y4, y5, y6, y7, y8, y9⟩ := HX2.out.cells; have T2 := hid (HOP.out w2 (HC.out.gl' S2.out)); clear b2 x0 x1 x2 x3 x4 x5 x6 x7 x8 x9)
    | (go_at_call 99; with_reducible refine T2.out.mono ?_; rintro r w3 ⟨rfl, b3⟩; have S3 := hid (S2.out.below b3); have HX3 := hid (HX2.out.below b3); clear b3 y0 y1 y2 y3 y4 y5 y6 y7 y8 y9)
    | fail)
  have S4 := hid (S3.out.alloc (.cells #[.int .i64 o.kind, .int .i64 o.op, .int .i64 o.tok, .string ⟨o.txt.toArray⟩, .int .i64 o.line] 132))
  have HX4 := hid (HX3.out.below (albl w3 (.cells #[.int .i64 o.kind, .int .i64 o.op, .int .i64 o.tok, .string ⟨o.txt.toArray⟩, .int .i64 o.line] 132)))
  have HO4 := hid (show OB (w3.alloc (.cells #[.int .i64 o.kind, .int .i64 o.op, .int .i64 o.tok, .string ⟨o.txt.toArray⟩, .int .i64 o.line] 132)) w3.heap.size o from heap_alloc_new w3 _)
  generalize hW4 : w3.alloc _ = W4 at *
  clear hW4 hXl
  have hX4l := HX4.out.lt
  have hO4l := HO4.out.lt
  obtain ⟨o0, o1, o2, o3, o4⟩ := HO4.out.cells
  have T4 := hid (HU.out W4)
  go_upto_region 10 with (first
    | (go_at_call 100; with_reducible refine T4.out.mono ?_; rintro r w5 ⟨rfl, b5⟩
       have HX5 := hid (HX4.out.below b5)
       have HO5 := hid (HO4.out.below b5)
       have S5 := hid (S4.out.below b5)
       have T5 := hid (S5.out.text HC.out.F1 [toUpperA o.txt, [32]] [.string ⟨(toUpperA o.txt).toArray⟩, .string ⟨#[32]⟩] rfl 2 2 rfl (by have := HL2.out; simp at this ⊢; omega) (by simp))
       rw [flat2] at T5
       clear b5)
    | (go_at_call 96; with_reducible refine T5.out.mono ?_; rintro r w6 ⟨rfl, s6, G6, c6, g6, g6f⟩
       have HX6 := hid ((HX5.out.chg (Chg.of_below (F := fun _ => False) (albl w5 _)) id).chg c6 (g6 _ (Or.inl (Or.inl (Or.inr rfl)))))
       have HO6 := hid ((HO5.out.chg (Chg.of_below (F := fun _ => False) (albl w5 _)) id).chg c6 (g6 _ (Or.inl (Or.inr rfl))))
       have S6 := hid s6
       have S6d := hid (s6.below (Below.drew (Below.refl _ _)))
       clear s6 c6 g6 g6f)
    | fail)
  obtain ⟨blk, off, q, cx, rfl, hx, ex, hblk⟩ := HA.out w6 (HC.out.low S6.out)
  simp only [Nat.zero_mul, Nat.add_zero, List.getElem_cons_zero] at hx ex
  have T7 := hid (wsOperand HEE.out HC.out S6d.out x q cx o.line HKx.out ex HL3.out)
  have hcell : Hid (∀ (G : Nat → Prop) w7, Chg G w6.drew w7 → (∀ k, ((((False ∨ k = w.heap.size) ∨ k = w3.heap.size) ∨ k = w5.heap.size) → ¬ G k)) → ¬ G blk → (fun w' => w'.cell? ⟨w.heap.size, 9, none⟩ = some (.slice (some ⟨blk, off, none⟩) 1 c) ∧ w'.cell? ⟨blk, off, none⟩ = some (.int .i64 x.k) ∧ w'.cell? ⟨blk, off + 1, none⟩ = some (.int .i64 x.op) ∧ w'.cell? ⟨blk, off + 2, none⟩ = some (.int .i64 x.v.k) ∧ w'.cell? ⟨blk, off + 3, none⟩ = some (.int .i64 x.v.n) ∧ w'.cell? ⟨blk, off + 4, none⟩ = some (.string x.v.s) ∧ w'.cell? ⟨blk, off + 5, none⟩ = some (.string ⟨x.t.toArray⟩) ∧ w'.cell? ⟨blk, off + 6, none⟩ = some (.string ⟨x.n.toArray⟩) ∧ w'.cell? ⟨blk, off + 7, none⟩ = some (.int .i64 0) ∧ w'.cell? ⟨blk, off + 8, none⟩ = some (.int .i64 0) ∧ w'.cell? ⟨blk, off + 9, none⟩ = some (.slice q x.xs.length cx) ∧ w'.cell? ⟨w3.heap.size, 4, none⟩ = some (.int .i64 o.line)) w7) := fun G w7 c7 g7 gb => by
    have X7 := (HX6.out.below (w' := w6.drew) (Below.drew (Below.refl _ _))).chg c7 (g7 _ (Or.inl (Or.inl (Or.inr rfl))))
    have O7 := (HO6.out.below (w' := w6.drew) (Below.drew (Below.refl _ _))).chg c7 (g7 _ (Or.inl (Or.inr rfl)))
    have E7 := (hx.chg (F := fun _ => False) (w' := w6.drew) (Chg.of_below (Below.drew (Below.refl _ _))) id).chg c7 gb
    obtain ⟨e0, e1, e2, e3, e4, e5, e6, e7, e8, e9⟩ := E7
    exact ⟨X7.cells.2.2.2.2.2.2.2.2.2, e0, e1, e2, e3, e4, e5, e6, e7, e8, e9, O7.cells.2.2.2.2⟩
  have K6 := hid (hcell.out (fun _ => False) w6.drew (Chg.refl _ _) (fun _ _ => id) id)
  clear hx ex o0 o1 o2 o3 o4
  go_region_held_law (fun w' => w'.cell? ⟨w.heap.size, 9, none⟩ = some (.slice (some ⟨blk, off, none⟩) 1 c) ∧ w'.cell? ⟨blk, off, none⟩ = some (.int .i64 x.k) ∧ w'.cell? ⟨blk, off + 1, none⟩ = some (.int .i64 x.op) ∧ w'.cell? ⟨blk, off + 2, none⟩ = some (.int .i64 x.v.k) ∧ w'.cell? ⟨blk, off + 3, none⟩ = some (.int .i64 x.v.n) ∧ w'.cell? ⟨blk, off + 4, none⟩ = some (.string x.v.s) ∧ w'.cell? ⟨blk, off + 5, none⟩ = some (.string ⟨x.t.toArray⟩) ∧ w'.cell? ⟨blk, off + 6, none⟩ = some (.string ⟨x.n.toArray⟩) ∧ w'.cell? ⟨blk, off + 7, none⟩ = some (.int .i64 0) ∧ w'.cell? ⟨blk, off + 8, none⟩ = some (.int .i64 0) ∧ w'.cell? ⟨blk, off + 9, none⟩ = some (.slice q x.xs.length cx) ∧ w'.cell? ⟨w3.heap.size, 4, none⟩ = some (.int .i64 o.line)) (first | exact K6.out | exact K7.out) (first
    | (go_at_call 101; with_reducible refine T7.out.mono ?_; rintro r w7 ⟨rfl, s7, G7, c7, g7, g7f⟩; have S7 := hid s7; have K7 := hid (hcell.out G7 w7 c7 g7 (HC.out.old g7f hblk)); clear s7 c7 g7 g7f))
  go_wp2_with fail
  refine end0 rfl rfl ⟨rfl, ?_⟩
  have := S7.out.fin
  simpa using this
/-- Every step. -/
theorem step_any (w0 : World) (j0 j1 : Int) (k op : Int) (v : Val) (t n : List UInt8) (xs : List Ex) (hv : v.s.size ≤ 2147483648 ∧ -9223372036854775808 ≤ v.n ∧ v.n ≤ 9223372036854775807) (hxl : xs.length ≤ 3) : StepOk w0 j0 j1 k op v t n xs := by
  cases hf : fitsB k op xs.length with
  | false => exact step_no w0 j0 j1 k op v t n xs hf
  | true =>
    by_cases h1 : k = 1
    · subst h1; exact step_lit w0 j0 j1 op v t n xs hf hv
    by_cases h2 : k = 2
    · subst h2; exact step_col w0 j0 j1 op v t n xs hf
    by_cases h3 : k = 3
    · subst h3
      have hf' : ((opOf 3 op).isSome && xs.length == 1) = true := hf
      simp only [Bool.and_eq_true, beq_iff_eq, Option.isSome_iff_exists] at hf'
      obtain ⟨⟨o, ho⟩, hl⟩ := hf'
      obtain ⟨x, rfl⟩ := one_of hl
      exact step_one w0 j0 j1 op v t n x o ho
    by_cases h4 : k = 4
    · subst h4
      have hf' : ((opOf 4 op).isSome && xs.length == 2) = true := hf
      simp only [Bool.and_eq_true, beq_iff_eq, Option.isSome_iff_exists] at hf'
      obtain ⟨⟨o, ho⟩, hl⟩ := hf'
      obtain ⟨x, y, rfl⟩ := two_of hl
      exact step_two w0 j0 j1 op v t n x y o ho
    by_cases h7 : k = 7
    · subst h7
      have hf' : ((op == 0 || op == 1) && xs.length == 1) = true := hf
      simp only [Bool.and_eq_true, beq_iff_eq] at hf'
      obtain ⟨x, rfl⟩ := one_of hf'.2
      exact step_null w0 j0 j1 op v t n x hf
    by_cases h5 : k = 5
    · subst h5
      obtain ⟨o, ho⟩ := fits_cal (Or.inl rfl) hf
      exact step_cal5 w0 j0 j1 op v t n xs o ho hf hxl
    by_cases h6 : k = 6
    · subst h6
      obtain ⟨o, ho⟩ := fits_cal (Or.inr rfl) hf
      exact step_cal6 w0 j0 j1 op v t n xs o ho hf hxl
    · exfalso
      unfold fitsB at hf
      rw [if_neg (by omega), if_neg (by omega), if_neg (by omega), if_neg (by omega), if_neg (by omega)] at hf
      cases hf
/-- Every expression. -/
theorem expr_ok (w0 : World) : ∀ m, ExprOk w0 m
  | 0 => fun w F b l e p c hc h ok eat hlen => by
    have hb := ok.base
    obtain ⟨k, op, v, t, n, xs⟩ := e
    obtain rfl : xs = [] := eat
    exact step_any w0 0 0 k op v t n [] ⟨hb.1, hb.2.1, hb.2.2.1⟩ (by simp) w F b l p c 0 hc h (fun q => absurd rfl q) (fun x hx => by simp at hx) (Or.inl rfl) hlen
  | m + 1 => fun w F b l e p c hc h ok eat hlen => by
    have hb := ok.base
    have hk := ok.2
    obtain ⟨k, op, v, t, n, xs⟩ := e
    exact step_any w0 0 0 k op v t n xs ⟨hb.1, hb.2.1, hb.2.2.1⟩ hb.2.2.2 w F b l p c m hc h (fun _ => expr_ok w0 m) hk eat hlen
end Go.Proofs.YtblkhlhhlalbkaaGreatDoor
namespace Go.Proofs.YtblkhlhhlalbkaaGreatDoor
open Go.RowKit Go.Lib Go.Sort
set_option linter.unusedVariables false
set_option maxRecDepth 20000

theorem byteCells_b (l : List UInt8) : byteCells l = bcells l := rfl
theorem cellsByte1 : Tryz.prog.cellsOf 5 = 1 := by kernel_rfl
set_option maxHeartbeats 2000000 in
theorem wstr_row {F : Nat → Prop} {b g cap : Nat} {l : List UInt8} {w : World} {p : Value} {cur : Array Value} (h0 : l ≠ []) (hb : w.heap[b]? = some (.cells #[p, .slice (some ⟨g, 0, none⟩) l.length cap] 122 (0, 0))) (hg : w.heap[g]? = some (.cells cur 5 (0, 0))) (hL : LB w 0 (.slice (some ⟨g, 0, none⟩) l.length cap) l) (hc : l.length ≤ cap) (hcm : cap ≤ maxLen) (hcs : cur.size = cap * 1) (hF : F g) :
    Calls Tryz.prog 76 #[.pointer (some ⟨b, 0, none⟩)] w fun e w' => e = .returned (.string ⟨l.toArray⟩) ∧ Chg F w w' := by
  have hl0 : l.length ≠ 0 := by simpa using h0
  have c1 : w.drew.cell? ⟨b, 1, none⟩ = some (.slice (some ⟨g, 0, none⟩) l.length cap) := by
    rw [Lib.cell_of_heap (show w.drew.heap[b]? = _ from hb)]; rfl
  have hSD : (Builtin.unsafeSliceData_ #[93] 137 #[.slice (some ⟨g, 0, none⟩) l.length cap]).run Tryz.prog w.drew = .ok (.pointer (some ⟨g, 0, none⟩)) w.drew :=
    Lib.run_unsafeSliceData_row _ _ _ _ _ _ (by omega)
  have hUS : (Builtin.unsafeString_ #[137, 3] 9 #[.pointer (some ⟨g, 0, none⟩), .int .i64 l.length]).run Tryz.prog w.drew = .ok (.string ⟨l.toArray⟩) (w.drew.freeze ⟨g, 0, none⟩ l.length) := by
    refine Lib.run_unsafeString_row w.drew 137 3 9 5 Tryz.underlying137 cellsByte1 g cur.size (by have hg' : w.drew.heap[g]? = some (.cells cur 5 (0, 0)) := hg; simp [World.shape?, hg']) l h0 (by omega) (by unfold maxLen at hcm; omega) ?_
    intro j x hx
    exact World.ownsRow.cells (g := g) hL rfl j (.int .u8 x.toNat) (by simp [bcells, hx])
  have C : Chg F w (w.drew.freeze ⟨g, 0, none⟩ l.length) := by
    have B := Lib.below_freeze (B := g) (a := w) (w := w.drew) ((Below.refl g w).drew) (p := ⟨g, 0, none⟩) (Nat.le_refl _) l.length
    refine ⟨B.os, B.tape, B.output, B.size, fun k hk hn => ?_⟩
    have hkg : k ≠ g := fun e => hn (by rw [e]; exact hF)
    show (w.drew.freeze ⟨g, 0, none⟩ l.length).heap[k]? = w.drew.heap[k]?
    generalize w.drew = X
    unfold World.freeze
    split
    · rfl
    · simp only [Array.getElem?_modify]
      rw [if_neg (Ne.symm hkg)]
  clear hcs hL hg hb
  go_enter Tryz.func76, Tryz.ntmps76
  go_wp2
  go_region
  all_goals (go_wp2; go_ret; exact ⟨rfl, C⟩)
theorem unsafeStr_none (W : World) (q : Option Addr) : (Builtin.unsafeString_ #[137, 3] 9 #[.pointer q, .int .i64 0]).run Tryz.prog W = .ok (.string .empty) W :=
  Lib.run_unsafeString_none W _ _ _ q
set_option maxHeartbeats 2000000 in
theorem wstr_nil {F : Nat → Prop} {b : Nat} {w : World} {p : Value} (hb : w.heap[b]? = some (.cells #[p, .slice none 0 0] 122 (0, 0))) :
    Calls Tryz.prog 76 #[.pointer (some ⟨b, 0, none⟩)] w fun e w' => e = .returned (.string ⟨#[]⟩) ∧ Chg F w w' := by
  have hUS := unsafeStr_none
  have c1 : w.drew.cell? ⟨b, 1, none⟩ = some (.slice none 0 0) := by
    rw [Lib.cell_of_heap (show w.drew.heap[b]? = _ from hb)]; rfl
  have hSD : (Builtin.unsafeSliceData_ #[93] 137 #[.slice none 0 0]).run Tryz.prog w.drew = .ok (.pointer none) w.drew := rfl
  clear hb
  go_enter Tryz.func76, Tryz.ntmps76
  go_wp2
  go_region
  all_goals (go_wp2; go_ret; exact ⟨rfl, (Chg.refl F w).drew⟩)
set_option maxHeartbeats 2000000 in
theorem wstr_room {F : Nat → Prop} {b g cap : Nat} {w : World} {p : Value} (hc : cap ≠ 0) (hb : w.heap[b]? = some (.cells #[p, .slice (some ⟨g, 0, none⟩) 0 cap] 122 (0, 0))) :
    Calls Tryz.prog 76 #[.pointer (some ⟨b, 0, none⟩)] w fun e w' => e = .returned (.string ⟨#[]⟩) ∧ Chg F w w' := by
  have hUS := unsafeStr_none
  have c1 : w.drew.cell? ⟨b, 1, none⟩ = some (.slice (some ⟨g, 0, none⟩) 0 cap) := by
    rw [Lib.cell_of_heap (show w.drew.heap[b]? = _ from hb)]; rfl
  have hSD : (Builtin.unsafeSliceData_ #[93] 137 #[.slice (some ⟨g, 0, none⟩) 0 cap]).run Tryz.prog w.drew = .ok (.pointer (some ⟨g, 0, none⟩)) w.drew :=
    Lib.run_unsafeSliceData_row _ _ _ _ _ _ hc
  clear hb hc
  go_enter Tryz.func76, Tryz.ntmps76
  go_wp2
  go_region
  all_goals (go_wp2; go_ret; exact ⟨rfl, (Chg.refl F w).drew⟩)
set_option maxHeartbeats 2000000 in
theorem wstr_noroom {F : Nat → Prop} {b g : Nat} {w : World} {p : Value} {cur : Array Value} (hb : w.heap[b]? = some (.cells #[p, .slice (some ⟨g, 0, none⟩) 0 0] 122 (0, 0))) (hg : w.heap[g]? = some (.cells cur 5 (0, 0))) :
    Calls Tryz.prog 76 #[.pointer (some ⟨b, 0, none⟩)] w fun e w' => e = .returned (.string ⟨#[]⟩) ∧ Chg F w w' := by
  have hUS := unsafeStr_none
  have hlt : b < w.heap.size := (Array.getElem?_eq_some_iff.1 hb).1
  have c1 : w.drew.cell? ⟨b, 1, none⟩ = some (.slice (some ⟨g, 0, none⟩) 0 0) := by
    rw [Lib.cell_of_heap (show w.drew.heap[b]? = _ from hb)]; rfl
  have hSD : (Builtin.unsafeSliceData_ #[93] 137 #[.slice (some ⟨g, 0, none⟩) 0 0]).run Tryz.prog w.drew = .ok (.pointer (some ⟨w.drew.heap.size, 0, none⟩)) (w.drew.alloc (.view ⟨g, 0, none⟩ 5)) :=
    Lib.run_unsafeSliceData_zero w.drew _ _ 5 Tryz.underlying137 ⟨g, 0, none⟩ 0 (5, cur.size) (by have hg' : w.drew.heap[g]? = some (.cells cur 5 (0, 0)) := hg; simp [World.shape?, hg'])
  have c2 : (w.drew.alloc (.view ⟨g, 0, none⟩ 5)).cell? ⟨b, 1, none⟩ = some (.slice (some ⟨g, 0, none⟩) 0 0) := by
    rw [Lib.cell_of_heap (show (w.drew.alloc (.view ⟨g, 0, none⟩ 5)).heap[b]? = _ from (Lib.alloc_old w.drew _ b hlt).trans hb)]; rfl
  have c3 : (w.alloc (.view ⟨g, 0, none⟩ 5)).drew.cell? ⟨b, 1, none⟩ = some (.slice (some ⟨g, 0, none⟩) 0 0) := c2
  have c0 : w.cell? ⟨b, 1, none⟩ = some (.slice (some ⟨g, 0, none⟩) 0 0) := c1
  clear hb hg
  go_enter Tryz.func76, Tryz.ntmps76
  go_wp2
  go_region
  all_goals (go_wp2; go_ret; exact ⟨rfl, ((Chg.refl F w).drew).alloc _⟩)
theorem wstr_any {F : Nat → Prop} {b : Nat} {l : List UInt8} {w : World} (h : WF F b l w) :
    Calls Tryz.prog 76 #[.pointer (some ⟨b, 0, none⟩)] w fun e w' => e = .returned (.string ⟨l.toArray⟩) ∧ Chg F w w' := by
  obtain ⟨h0, p, v, hb, hp, hL, hne, hF⟩ := h
  have hL' := hL
  obtain ⟨h1, h2⟩ := hL
  rcases h2 with ⟨rfl, hz⟩ | ⟨g, cap, cur, rfl, hg0, hg, hc, hcm, hcs, ht⟩
  · obtain rfl : l = [] := List.length_eq_zero_iff.1 hz
    exact wstr_nil hb
  · by_cases hl : l = []
    · subst hl
      by_cases hc0 : cap = 0
      · subst hc0
        exact wstr_noroom hb hg
      · exact wstr_room hc0 hb
    · exact wstr_row hl hb hg hL' hc hcm hcs (hF g rfl)
set_option maxHeartbeats 4000000 in
/-- Print. -/
theorem print_any {w : World} (m : Nat) (e : Ex) (p : Option Addr) (c : Nat) (ok : OkE m e) (eat : EAt w (fun _ => True) m e p) (gl : Gl w) (rd : Ready w) (hlen : (prE e).length ≤ 140737488351232) :
    Calls Tryz.prog 62 #[.agg #[.int .i64 e.k, .int .i64 e.op, .int .i64 e.v.k, .int .i64 e.v.n, .string e.v.s, .string ⟨e.t.toArray⟩, .string ⟨e.n.toArray⟩, .int .i64 0, .int .i64 0, .slice p e.xs.length c]] w fun r w' => r = .returned (.string ⟨(prE e).toArray⟩) ∧ Below w.heap.size w w' := by
  have B1 := albl w (.cells #[.int .i64 e.k, .int .i64 e.op, .int .i64 e.v.k, .int .i64 e.v.n, .string e.v.s, .string ⟨e.t.toArray⟩, .string ⟨e.n.toArray⟩, .int .i64 0, .int .i64 0, .slice p e.xs.length c] 26)
  have HX := hid (BG.new w e.k e.op e.v.k e.v.n 0 0 e.v.s ⟨e.t.toArray⟩ ⟨e.n.toArray⟩ p e.xs.length c)
  have HE1 := hid (eat.chg (G := fun _ => False) (Chg.of_below B1) (fun _ _ q => q))
  have HG1 := hid (gl.below B1)
  have HR1 := hid (rd.below B1)
  have HB1 := hid B1
  have HK := hid ok
  have HL := hid hlen
  clear B1 eat gl rd ok hlen
  go_enter Tryz.func62, Tryz.ntmps62
  go_upto_region 1 with fail
  generalize hW : w.alloc _ = W at *
  clear hW
  go_upto_region 2 with fail
  have HW := hid (wf_new W)
  have HB2 := hid (albl W (.cells #[.pointer none, .slice none 0 0] 122))
  have hs2 : (W.alloc (.cells #[.pointer none, .slice none 0 0] 122)).heap.size = W.heap.size + 1 := by simp
  generalize hW2 : World.alloc W _ = W2 at *
  clear hW2
  have HC := hid (show Cx W W2 (· = W.heap.size) from ⟨HB2.out, fun k q => by omega, fun k q => by omega, HG1.out, HR1.out⟩)
  have T1 := hid (expr_ok W m W2 (· = W.heap.size) W.heap.size [] e p c HC.out HW.out HK.out HE1.out (by simpa using HL.out))
  have hXl := (HX.out.below HB2.out).lt
  obtain ⟨x0, x1, x2, x3, x4, x5, x6, x7, x8, x9⟩ := (HX.out.below HB2.out).cells
  clear hs2
  go_wp2_with (first
    | (go_at_call 75; go_loud (with_reducible refine T1.out.mono ?_); rintro r w3 ⟨rfl, h3, c3⟩; have HC3 := hid c3; go_loud (have T2 := hid (wstr_any h3)); clear h3 c3)
    | (go_at_call 76; with_reducible refine T2.out.mono ?_; rintro r w4 ⟨rfl, c4⟩; have HC4 := hid c4; clear c4)
    | fail)
  go_ret
  refine ⟨rfl, ?_⟩
  have hs1 := HB1.out.size
  have hs2 := HB2.out.size
  have h3 : Below W.heap.size W2 w3 := HC3.out.below (fun k q => Nat.le_of_eq q.symm) hs2
  have h4 : Below W.heap.size w3 w4 := HC4.out.below (fun k q => by rcases q with q | q <;> omega) (by have := HC3.out.size; omega)
  exact (HB1.out.trans (HB2.out.mono hs1)).trans ((h3.trans h4).mono hs1)
end Go.Proofs.YtblkhlhhlalbkaaGreatDoor
