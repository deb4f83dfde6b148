/- Plain mathematics of EvalDecides: a first operand that decides. No program is named here. No conditions. EvalDecides: the walk of the law, given what the document's own Print answers. Conditions: lists within the reach. -/
import Derived.Test.YtblkhlhhlalbkaaGreatDoorEP
import Derived.KernelRfl
import Derived.Test.YtblkhlhhlalbkaaGreatDoorEH
namespace Go.Proofs.YtblkhlhhlalbkaaGreatDoor
open Go.Lib
set_option linter.unusedVariables false
set_option maxRecDepth 20000

/-- A literal. -/
def litG (v : Val) : Gx := ⟨1, 0, v, [], [], 0, 0, []⟩
/-- Two operands. -/
def twoG (k op : Int) (a b : Gx) : Gx := ⟨k, op, ⟨0, 0, ⟨#[]⟩⟩, [], [], 0, 0, [a, b]⟩
theorem lit_ev (M : Nat) (row : List Val) (m : Nat) (v : Val) (h : noneB (litG v) = false) : evN M row [] m (litG v) = ⟨v, 0⟩ := by
  cases m <;>
  · show evB M row [] (litG v) _ = _
    unfold evB
    simp only [List.find?_nil, h]
    rfl
theorem two_ev (M : Nat) (row : List Val) (m : Nat) (k op : Int) (v : Val) (e : Gx) (h : noneB (litG v) = false) (hk1 : k ≠ 1) (hk2 : k ≠ 2) (hk6 : k ≠ 6) (hf : noneB (twoG k op (litG v) e) = false) (hd : decB k op v = true) : evN M row [] (m + 1) (twoG k op (litG v) e) = ⟨v, 0⟩ := by
  show evB M row [] (twoG k op (litG v) e) [evN M row [] m (litG v), evN M row [] m e] = _
  rw [lit_ev M row m v h]
  unfold evB
  simp only [List.find?_nil, hf]
  show (if k = 1 then _ else _) = _
  rw [if_neg hk1]
  show (if k = 2 then _ else _) = _
  rw [if_neg hk2]
  show (if k = 6 then _ else _) = _
  rw [if_neg hk6]
  show mdB k op _ = _
  unfold mdB
  simp [hd]
theorem none_no : noneB (litG ⟨1, 0, ⟨#[]⟩⟩) = false := by kernel_rfl
theorem none_yes : noneB (litG ⟨1, 1, ⟨#[]⟩⟩) = false := by kernel_rfl
theorem itoa_some (n : Int) : (itoa n).isEmpty = false := by
  have h : ∀ k, 0 < (decDigits k).length := fun k => by
    rw [decDigits]
    split <;> simp
  unfold itoa
  split
  · rfl
  · exact isEmpty_pos (h _)
where isEmpty_pos {l : List UInt8} (h : 0 < l.length) : l.isEmpty = false := by cases l <;> simp_all
theorem none_num (n : Int) : noneB (litG ⟨2, n, ⟨#[]⟩⟩) = false := by
  have h := itoa_some n
  have h2 : litV ⟨2, n, ⟨#[]⟩⟩ = itoa n := rfl
  unfold noneB emptyB litG
  simp only [h2, h]
  rfl
theorem none_two (k op : Int) (a b : Gx) (h : fitsB k op 2 = true) (h1 : k ≠ 1) (h2 : k ≠ 2) : noneB (twoG k op a b) = false := by
  unfold noneB emptyB twoG
  simp [h, h1, h2]
theorem dec_and {e : Gx} (M : Nat) (row : List Val) (m : Nat) : evN M row [] (m + 1) (twoG 4 4 (litG ⟨1, 0, ⟨#[]⟩⟩) e) = ⟨⟨1, 0, ⟨#[]⟩⟩, 0⟩ := two_ev M row m 4 4 _ e none_no (by decide) (by decide) (by decide) (none_two 4 4 _ _ (by decide) (by decide) (by decide)) (by kernel_rfl)
theorem dec_or {e : Gx} (M : Nat) (row : List Val) (m : Nat) : evN M row [] (m + 1) (twoG 4 3 (litG ⟨1, 1, ⟨#[]⟩⟩) e) = ⟨⟨1, 1, ⟨#[]⟩⟩, 0⟩ := two_ev M row m 4 3 _ e none_yes (by decide) (by decide) (by decide) (none_two 4 3 _ _ (by decide) (by decide) (by decide)) (by kernel_rfl)
theorem dec_coal {e : Gx} (M : Nat) (row : List Val) (m : Nat) (n : Int) : evN M row [] (m + 1) (twoG 5 6 (litG ⟨2, n, ⟨#[]⟩⟩) e) = ⟨⟨2, n, ⟨#[]⟩⟩, 0⟩ := two_ev M row m 5 6 _ e (none_num n) (by decide) (by decide) (by decide) (none_two 5 6 _ _ (by decide) (by decide) (by decide)) rfl
end Go.Proofs.YtblkhlhhlalbkaaGreatDoor
namespace Go.Proofs.YtblkhlhhlalbkaaGreatDoor
open Go.RowKit Go.Lib Go.Sort
set_option linter.unusedVariables false
set_option maxRecDepth 20000

/-- A variable that holds a literal. -/
def LG (w : World) (b : Nat) (k n : Int) (s : ByteArray) : Prop := w.heap[b]? = some (.cells #[.int .i64 1, .int .i64 0, .int .i64 k, .int .i64 n, .string s, .string ⟨#[]⟩, .string ⟨#[]⟩, .int .i64 0, .int .i64 0, .slice none 0 0] 26 (0, 0))
theorem LG.new (w : World) (k n : Int) (s : ByteArray) : LG (w.alloc (.cells #[.int .i64 1, .int .i64 0, .int .i64 k, .int .i64 n, .string s, .string ⟨#[]⟩, .string ⟨#[]⟩, .int .i64 0, .int .i64 0, .slice none 0 0] 26)) w.heap.size k n s := heap_alloc_new w _
theorem LG.below {w w' : World} {b : Nat} {k n : Int} {s : ByteArray} (h : LG w b k n s) (B : Below w.heap.size w w') : LG w' b k n s := (B.block b (Array.getElem?_eq_some_iff.1 h).1).trans h
theorem LG.lt {w : World} {b : Nat} {k n : Int} {s : ByteArray} (h : LG w b k n s) : b < w.heap.size := (Array.getElem?_eq_some_iff.1 h).1
theorem LG.cells {w : World} {b : Nat} {k n : Int} {s : ByteArray} (h : LG w b k n s) : w.cell? ⟨b, 0, none⟩ = some (.int .i64 1) ∧ w.cell? ⟨b, 1, none⟩ = some (.int .i64 0) ∧ w.cell? ⟨b, 2, none⟩ = some (.int .i64 k) ∧ w.cell? ⟨b, 3, none⟩ = some (.int .i64 n) ∧ w.cell? ⟨b, 4, none⟩ = some (.string s) ∧ w.cell? ⟨b, 5, none⟩ = some (.string ⟨#[]⟩) ∧ w.cell? ⟨b, 6, none⟩ = some (.string ⟨#[]⟩) ∧ w.cell? ⟨b, 7, none⟩ = some (.int .i64 0) ∧ w.cell? ⟨b, 8, none⟩ = some (.int .i64 0) ∧ w.cell? ⟨b, 9, none⟩ = some (.slice none 0 0) := by
  refine ⟨?_, ?_, ?_, ?_, ?_, ?_, ?_, ?_, ?_, ?_⟩ <;> (rw [Lib.cell_of_heap h]; rfl)
theorem gat_lit (w : World) (m : Nat) (v : Val) : GAt w m (litG v) none := by
  cases m with
  | zero => rfl
  | succ m => exact ⟨Nat.zero_le _, Or.inl rfl⟩
theorem two_gat {w : World} {m g : Nat} {p : Option Addr} {c : Nat} {e : Gx} {kk op k n : Int} {s : ByteArray} (h : w.heap[g]? = some (.cells #[.int .i64 1, .int .i64 0, .int .i64 k, .int .i64 n, .string s, .string ⟨#[]⟩, .string ⟨#[]⟩, .int .i64 0, .int .i64 0, .slice none 0 0, .int .i64 e.k, .int .i64 e.op, .int .i64 e.v.k, .int .i64 e.v.n, .string e.v.s, .string ⟨e.t.toArray⟩, .string ⟨e.n.toArray⟩, .int .i64 e.c, .int .i64 e.y, .slice p e.xs.length c] 26 (0, 0))) (he : GAt w m e p) (hc : e.xs.length ≤ c) : GAt w (m + 1) (twoG kk op (litG ⟨k, n, s⟩) e) (some ⟨g, 0, none⟩) := by
  refine ⟨show (2 : Nat) ≤ _ by omega, Or.inr ⟨g, 0, rfl, fun i hi => ?_⟩⟩
  match i, hi with
  | 0, _ =>
    refine ⟨none, 0, ?_, gat_lit w m _, Nat.le_refl _⟩
    refine ⟨?_, ?_, ?_, ?_, ?_, ?_, ?_, ?_, ?_, ?_⟩ <;> (rw [Lib.cell_of_heap h]; rfl)
  | 1, _ =>
    refine ⟨p, c, ?_, he, hc⟩
    refine ⟨?_, ?_, ?_, ?_, ?_, ?_, ?_, ?_, ?_, ?_⟩ <;> (rw [Lib.cell_of_heap h]; rfl)
theorem rt_lit {v : Val} (h : RtV v) : ∀ m, RtN m (litG v)
  | 0 => ⟨h, by show (0 : Nat) ≤ _; omega, by show (0 : Nat) ≤ _; omega⟩
  | m + 1 => ⟨⟨h, by show (0 : Nat) ≤ _; omega, by show (0 : Nat) ≤ _; omega⟩, fun x hx => by cases hx⟩
theorem eval_two {w : World} {m g : Nat} {pr p : Option Addr} {row : List Val} {cr c : Nat} {e : Gx} {kk op k n : Int} {s : ByteArray} (hr : Row w pr row) (ht : Tb w) (hl : row.length ≤ 1048576) (hg : ∀ v ∈ row, RtV v) (he : GAt w m e p) (hre : RtN m e) (hc : e.xs.length ≤ c)
    (h : w.heap[g]? = some (.cells #[.int .i64 1, .int .i64 0, .int .i64 k, .int .i64 n, .string s, .string ⟨#[]⟩, .string ⟨#[]⟩, .int .i64 0, .int .i64 0, .slice none 0 0, .int .i64 e.k, .int .i64 e.op, .int .i64 e.v.k, .int .i64 e.v.n, .string e.v.s, .string ⟨e.t.toArray⟩, .string ⟨e.n.toArray⟩, .int .i64 e.c, .int .i64 e.y, .slice p e.xs.length c] 26 (0, 0))) (hv : RtV ⟨k, n, s⟩) (hE : evN (m + 1) row [] (m + 1) (twoG kk op (litG ⟨k, n, s⟩) e) = ⟨⟨k, n, s⟩, 0⟩) :
    Calls Tryz.prog 12 #[.agg #[.int .i64 kk, .int .i64 op, .int .i64 0, .int .i64 0, .string ⟨#[]⟩, .string ⟨#[]⟩, .string ⟨#[]⟩, .int .i64 0, .int .i64 0, .slice (some ⟨g, 0, none⟩) 2 2], .slice pr row.length cr, .slice none 0 0] w fun r w' => r = .returned (.tuple #[.agg #[.int .i64 k, .int .i64 n, .string s], .int .i64 0]) ∧ Below w.heap.size w w' := by
  have hR : RtN (m + 1) (twoG kk op (litG ⟨k, n, s⟩) e) := ⟨⟨rt_null, by show (0 : Nat) ≤ _; omega, by show (0 : Nat) ≤ _; omega⟩, fun x hx => by
    have hx' : x ∈ [litG ⟨k, n, s⟩, e] := hx
    simp only [List.mem_cons, List.not_mem_nil, or_false] at hx'
    rcases hx' with rfl | rfl
    · exact rt_lit hv m
    · exact hre⟩
  have := eval_no (m := m + 1) (cr := cr) (c := 2) hr ht hl hg (two_gat (kk := kk) (op := op) h he hc) hR (Nat.le_refl 2)
  rw [hE] at this
  exact this
theorem rt_no : RtV ⟨1, 0, ⟨#[]⟩⟩ := rt_truth false
theorem rt_yes : RtV ⟨1, 1, ⟨#[]⟩⟩ := rt_truth true
set_option maxHeartbeats 32000000 in
theorem decides_any16 (m : Nat) (e : Gx) (p pa : Option Addr) (c ca : Nat) (a : List Val) (n : Int) (s : ByteArray) (w : World) (hE : Ew w) (hg : GAt w m e p) (hc : e.xs.length ≤ c) (hbd : BdN m e) (hz : szN m e ≤ 1048576)
    (ra : Row w pa a) (la : a.length ≤ 1048576) (ba : ∀ v ∈ a, BdV v) (hn : inR n)
    (hP : ∀ W, Below w.heap.size w W → Calls Tryz.prog 19 #[gV e p c] W fun r w' => r = .returned (.string s) ∧ Below W.heap.size W w') :
    Calls Tryz.prog 6 #[gV e p c, .slice pa a.length ca, .int .i64 n] w fun r w' => r = .returned (.bool true) ∧ Below w.heap.size w w' := by
  have HX0 := hid (BGx.new w e p c)
  have B := albl' w (.cells #[.int .i64 e.k, .int .i64 e.op, .int .i64 e.v.k, .int .i64 e.v.n, .string e.v.s, .string ⟨e.t.toArray⟩, .string ⟨e.n.toArray⟩, .int .i64 e.c, .int .i64 e.y, .slice p e.xs.length c] 26)
  have B0 := hid B
  have HE := hid (fun (W : World) (h : Below w.heap.size w W) => hE.below h)
  have HG := hid hg
  have HCe := hid hc
  have HRN := hid (rt_num hn)
  have HRA := hid (And.intro ra la)
  have CW := hid (fun (W : World) (h : Below w.heap.size w W) (_ : BGx W w.heap.size e p c) => works_any16 W (hE.below h))
  have CR := hid (fun (W : World) (h : Below w.heap.size w W) (_ : BGx W w.heap.size e p c) => rights_all m W e p c (hg.below h))
  have CA := hid (fun (W : World) (h : Below w.heap.size w W) (_ : BGx W w.heap.size e p c) => rightRow_any a pa ca W la (ra.below h))
  have CS := hid (fun (W : World) (h : Below w.heap.size w W) (_ : BGx W w.heap.size e p c) => size_all m W e p c (hg.below h) hz)
  have CP := hid (fun (W : World) (h : Below w.heap.size w W) (_ : BGx W w.heap.size e p c) => hP W h)
  have HRT := hid (fun (q : rgN m e = true) => rtN_of m e hbd q)
  have HTA := hid (fun (q : (a.all fun v => checkV v == 0) = true) => rtRow_of ba q)
  clear B hE hg hc hbd hz ra la ba hn hP
  generalize (a.all fun v => checkV v == 0) = qa at *
  generalize rgN m e = qr at *
  generalize szN m e = sz at *
  go_enter Tryz.func6, Tryz.ntmps6
  go_upto_region 1 with fail
  generalize hW : w.alloc _ = W0 at *
  clear hW
  go_upto_region 3 with (first
    | (go_at_call 16; go_loud (with_reducible refine (CW.out _ B0.out HX0.out).mono ?_); rintro r w1 ⟨rfl, b1⟩; have HX1 := hid (HX0.out.below b1); have B1 := hid (B0.out.trans (b1.mono B0.out.size)); clear b1)
    | fail)
  have hl1 := HX1.out.lt
  obtain ⟨x0, x1, x2, x3, x4, x5, x6, x7, x8, x9⟩ := HX1.out.cells
  cases qr
  · go_wp2_with (first
      | (go_at_call 7; go_loud (with_reducible refine (CR.out _ B1.out HX1.out).mono ?_); rintro r w2 ⟨rfl, b2⟩; have HX2 := hid (HX1.out.below b2); have B2 := hid (B1.out.trans (b2.mono B1.out.size)); clear b2; clear x0 x1 x2 x3 x4 x5 x6 x7 x8 x9; obtain ⟨x0, x1, x2, x3, x4, x5, x6, x7, x8, x9⟩ := HX2.out.cells)
      | fail)
    go_ret
    exact ⟨rfl, B2.out⟩
  cases qa
  · go_wp2_with (first
      | (go_at_call 7; go_loud (with_reducible refine (CR.out _ B1.out HX1.out).mono ?_); rintro r w2 ⟨rfl, b2⟩; have HX2 := hid (HX1.out.below b2); have B2 := hid (B1.out.trans (b2.mono B1.out.size)); clear b2; clear x0 x1 x2 x3 x4 x5 x6 x7 x8 x9; obtain ⟨x0, x1, x2, x3, x4, x5, x6, x7, x8, x9⟩ := HX2.out.cells)
      | (go_at_call 8; go_loud (with_reducible refine (CA.out _ B2.out HX2.out).mono ?_); rintro r w3 ⟨rfl, b3⟩; have HX3 := hid (HX2.out.below b3); have B3 := hid (B2.out.trans (b3.mono B2.out.size)); clear b3; clear x0 x1 x2 x3 x4 x5 x6 x7 x8 x9; obtain ⟨x0, x1, x2, x3, x4, x5, x6, x7, x8, x9⟩ := HX3.out.cells)
      | fail)
    go_ret
    exact ⟨rfl, B3.out⟩
  by_cases hsz : (300 : Int) < (sz : Int)
  · go_wp2_with (first
      | (go_at_call 7; go_loud (with_reducible refine (CR.out _ B1.out HX1.out).mono ?_); rintro r w2 ⟨rfl, b2⟩; have HX2 := hid (HX1.out.below b2); have B2 := hid (B1.out.trans (b2.mono B1.out.size)); clear b2; clear x0 x1 x2 x3 x4 x5 x6 x7 x8 x9; obtain ⟨x0, x1, x2, x3, x4, x5, x6, x7, x8, x9⟩ := HX2.out.cells)
      | (go_at_call 8; go_loud (with_reducible refine (CA.out _ B2.out HX2.out).mono ?_); rintro r w3 ⟨rfl, b3⟩; have HX3 := hid (HX2.out.below b3); have B3 := hid (B2.out.trans (b3.mono B2.out.size)); clear b3; clear x0 x1 x2 x3 x4 x5 x6 x7 x8 x9; obtain ⟨x0, x1, x2, x3, x4, x5, x6, x7, x8, x9⟩ := HX3.out.cells)
      | (go_at_call 9; go_loud (with_reducible refine (CS.out _ B3.out HX3.out).mono ?_); rintro r w4 ⟨rfl, b4⟩; have HX4 := hid (HX3.out.below b4); have B4 := hid (B3.out.trans (b4.mono B3.out.size)); clear b4; clear x0 x1 x2 x3 x4 x5 x6 x7 x8 x9; obtain ⟨x0, x1, x2, x3, x4, x5, x6, x7, x8, x9⟩ := HX4.out.cells)
      | fail)
    go_ret
    exact ⟨rfl, B4.out⟩
  by_cases hs : s.toList.isEmpty = true
  · go_wp2_with (first
      | (go_at_call 7; go_loud (with_reducible refine (CR.out _ B1.out HX1.out).mono ?_); rintro r w2 ⟨rfl, b2⟩; have HX2 := hid (HX1.out.below b2); have B2 := hid (B1.out.trans (b2.mono B1.out.size)); clear b2; clear x0 x1 x2 x3 x4 x5 x6 x7 x8 x9; obtain ⟨x0, x1, x2, x3, x4, x5, x6, x7, x8, x9⟩ := HX2.out.cells)
      | (go_at_call 8; go_loud (with_reducible refine (CA.out _ B2.out HX2.out).mono ?_); rintro r w3 ⟨rfl, b3⟩; have HX3 := hid (HX2.out.below b3); have B3 := hid (B2.out.trans (b3.mono B2.out.size)); clear b3; clear x0 x1 x2 x3 x4 x5 x6 x7 x8 x9; obtain ⟨x0, x1, x2, x3, x4, x5, x6, x7, x8, x9⟩ := HX3.out.cells)
      | (go_at_call 9; go_loud (with_reducible refine (CS.out _ B3.out HX3.out).mono ?_); rintro r w4 ⟨rfl, b4⟩; have HX4 := hid (HX3.out.below b4); have B4 := hid (B3.out.trans (b4.mono B3.out.size)); clear b4; clear x0 x1 x2 x3 x4 x5 x6 x7 x8 x9; obtain ⟨x0, x1, x2, x3, x4, x5, x6, x7, x8, x9⟩ := HX4.out.cells)
      | (go_at_call 19; go_loud (with_reducible refine (CP.out _ B4.out HX4.out).mono ?_); rintro r w5 ⟨rfl, b5⟩; have HX5 := hid (HX4.out.below b5); have B5 := hid (B4.out.trans (b5.mono B4.out.size)); clear b5; clear x0 x1 x2 x3 x4 x5 x6 x7 x8 x9; obtain ⟨x0, x1, x2, x3, x4, x5, x6, x7, x8, x9⟩ := HX5.out.cells)
      | fail)
    go_ret
    exact ⟨rfl, B5.out⟩
  · have hs5 : s.toList.isEmpty = false := by simpa using hs
    clear hs
    go_upto_region 5 with (first
      | (go_at_call 7; go_loud (with_reducible refine (CR.out _ B1.out HX1.out).mono ?_); rintro r w2 ⟨rfl, b2⟩; have HX2 := hid (HX1.out.below b2); have B2 := hid (B1.out.trans (b2.mono B1.out.size)); clear b2; clear x0 x1 x2 x3 x4 x5 x6 x7 x8 x9; obtain ⟨x0, x1, x2, x3, x4, x5, x6, x7, x8, x9⟩ := HX2.out.cells)
      | (go_at_call 8; go_loud (with_reducible refine (CA.out _ B2.out HX2.out).mono ?_); rintro r w3 ⟨rfl, b3⟩; have HX3 := hid (HX2.out.below b3); have B3 := hid (B2.out.trans (b3.mono B2.out.size)); clear b3; clear x0 x1 x2 x3 x4 x5 x6 x7 x8 x9; obtain ⟨x0, x1, x2, x3, x4, x5, x6, x7, x8, x9⟩ := HX3.out.cells)
      | (go_at_call 9; go_loud (with_reducible refine (CS.out _ B3.out HX3.out).mono ?_); rintro r w4 ⟨rfl, b4⟩; have HX4 := hid (HX3.out.below b4); have B4 := hid (B3.out.trans (b4.mono B3.out.size)); clear b4; clear x0 x1 x2 x3 x4 x5 x6 x7 x8 x9; obtain ⟨x0, x1, x2, x3, x4, x5, x6, x7, x8, x9⟩ := HX4.out.cells)
      | (go_at_call 19; go_loud (with_reducible refine (CP.out _ B4.out HX4.out).mono ?_); rintro r w5 ⟨rfl, b5⟩; have HX5 := hid (HX4.out.below b5); have B5 := hid (B4.out.trans (b5.mono B4.out.size)); clear b5; clear x0 x1 x2 x3 x4 x5 x6 x7 x8 x9; obtain ⟨x0, x1, x2, x3, x4, x5, x6, x7, x8, x9⟩ := HX5.out.cells)
      | fail)
    have HRTe := hid (HRT.out trivial)
    have HTAr := hid (HTA.out trivial)
    clear HRT HTA CW CR CA CS CP x0 x1 x2 x3 x4 x5 x6 x7 x8 x9
    have BAl := albl w5 (.cells #[.int .i64 1, .int .i64 0, .int .i64 1, .int .i64 0, .string ⟨#[]⟩, .string ⟨#[]⟩, .string ⟨#[]⟩, .int .i64 0, .int .i64 0, .slice none 0 0] 26)
    have HXa0 := hid (HX5.out.below BAl)
    have Ba0 := hid (B5.out.trans (BAl.mono B5.out.size))
    have G00 := hid (LG.new w5 1 0 ⟨#[]⟩)
    clear BAl
    go_upto_region 6 with fail
    generalize hWa0 : World.alloc w5 _ = Wa0 at *
    clear hWa0
    generalize w5.heap.size = g0 at *
    have BAl := albl Wa0 (.cells #[.int .i64 1, .int .i64 0, .int .i64 1, .int .i64 1, .string ⟨#[]⟩, .string ⟨#[]⟩, .string ⟨#[]⟩, .int .i64 0, .int .i64 0, .slice none 0 0] 26)
    have HXa1 := hid (HXa0.out.below BAl)
    have Ba1 := hid (Ba0.out.trans (BAl.mono Ba0.out.size))
    have G01 := hid (G00.out.below BAl)
    have G11 := hid (LG.new Wa0 1 1 ⟨#[]⟩)
    clear BAl
    go_upto_region 7 with fail
    generalize hWa1 : World.alloc Wa0 _ = Wa1 at *
    clear hWa1
    generalize Wa0.heap.size = g1 at *
    have BAl := albl Wa1 (.cells #[.int .i64 1, .int .i64 0, .int .i64 2, .int .i64 n, .string ⟨#[]⟩, .string ⟨#[]⟩, .string ⟨#[]⟩, .int .i64 0, .int .i64 0, .slice none 0 0] 26)
    have HXa2 := hid (HXa1.out.below BAl)
    have Ba2 := hid (Ba1.out.trans (BAl.mono Ba1.out.size))
    have G02 := hid (G01.out.below BAl)
    have G12 := hid (G11.out.below BAl)
    have G22 := hid (LG.new Wa1 2 n ⟨#[]⟩)
    clear BAl
    go_upto_region 8 with fail
    generalize hWa2 : World.alloc Wa1 _ = Wa2 at *
    clear hWa2
    generalize Wa1.heap.size = g2 at *
    obtain ⟨x0, x1, x2, x3, x4, x5, x6, x7, x8, x9⟩ := HXa2.out.cells
    obtain ⟨y0, y1, y2, y3, y4, y5, y6, y7, y8, y9⟩ := G02.out.cells
    have BAk := albl Wa2 (.cells #[.int .i64 1, .int .i64 0, .int .i64 1, .int .i64 0, .string ⟨#[]⟩, .string ⟨#[]⟩, .string ⟨#[]⟩, .int .i64 0, .int .i64 0, .slice none 0 0, .int .i64 e.k, .int .i64 e.op, .int .i64 e.v.k, .int .i64 e.v.n, .string e.v.s, .string ⟨e.t.toArray⟩, .string ⟨e.n.toArray⟩, .int .i64 e.c, .int .i64 e.y, .slice p e.xs.length c] 26)
    have Bb0 := hid (Ba2.out.trans (BAk.mono Ba2.out.size))
    have HXb0 := hid (HXa2.out.below BAk)
    have N0b0 := hid (G02.out.below BAk)
    have N1b0 := hid (G12.out.below BAk)
    have N2b0 := hid (G22.out.below BAk)
    have D0 := hid (eval_two (kk := 4) (op := 4) (cr := ca) (HRA.out.1.below Bb0.out) (HE.out _ Bb0.out).tb HRA.out.2 HTAr.out (HG.out.below Bb0.out) HRTe.out HCe.out (heap_alloc_new Wa2 (.cells #[.int .i64 1, .int .i64 0, .int .i64 1, .int .i64 0, .string ⟨#[]⟩, .string ⟨#[]⟩, .string ⟨#[]⟩, .int .i64 0, .int .i64 0, .slice none 0 0, .int .i64 e.k, .int .i64 e.op, .int .i64 e.v.k, .int .i64 e.v.n, .string e.v.s, .string ⟨e.t.toArray⟩, .string ⟨e.n.toArray⟩, .int .i64 e.c, .int .i64 e.y, .slice p e.xs.length c] 26)) rt_no (dec_and (m + 1) a m))
    clear BAk
    go_upto_region 9 with (first
      | (go_at_call 12; go_loud (with_reducible refine D0.out.mono ?_); rintro r w0e ⟨rfl, b7⟩; have HXc0 := hid (HXb0.out.below b7); have Bc0 := hid (Bb0.out.trans (b7.mono Bb0.out.size)); have N0c0 := hid (N0b0.out.below b7); have N1c0 := hid (N1b0.out.below b7); have N2c0 := hid (N2b0.out.below b7); clear b7)
      | fail)
    have BAl := albl w0e (.cells #[.int .i64 1, .int .i64 0, .string ⟨#[]⟩] 23)
    have HXd0 := hid (HXc0.out.below BAl)
    have Bd0 := hid (Bc0.out.trans (BAl.mono Bc0.out.size))
    have N0d0 := hid (N0c0.out.below BAl)
    have N1d0 := hid (N1c0.out.below BAl)
    have N2d0 := hid (N2c0.out.below BAl)
    have M0d0 := hid (VV.new w0e 1 0 ⟨#[]⟩)
    clear BAl x0 x1 x2 x3 x4 x5 x6 x7 x8 x9 y0 y1 y2 y3 y4 y5 y6 y7 y8 y9
    generalize hWd0 : World.alloc w0e _ = Wd0 at *
    clear hWd0
    generalize w0e.heap.size = v0 at *
    obtain ⟨x0, x1, x2, x3, x4, x5, x6, x7, x8, x9⟩ := HXd0.out.cells
    obtain ⟨y0, y1, y2, y3, y4, y5, y6, y7, y8, y9⟩ := N1d0.out.cells
    have BAk := albl Wd0 (.cells #[.int .i64 1, .int .i64 0, .int .i64 1, .int .i64 1, .string ⟨#[]⟩, .string ⟨#[]⟩, .string ⟨#[]⟩, .int .i64 0, .int .i64 0, .slice none 0 0, .int .i64 e.k, .int .i64 e.op, .int .i64 e.v.k, .int .i64 e.v.n, .string e.v.s, .string ⟨e.t.toArray⟩, .string ⟨e.n.toArray⟩, .int .i64 e.c, .int .i64 e.y, .slice p e.xs.length c] 26)
    have Bb1 := hid (Bd0.out.trans (BAk.mono Bd0.out.size))
    have HXb1 := hid (HXd0.out.below BAk)
    have N0b1 := hid (N0d0.out.below BAk)
    have N1b1 := hid (N1d0.out.below BAk)
    have N2b1 := hid (N2d0.out.below BAk)
    have M0b1 := hid (M0d0.out.below BAk)
    have D1 := hid (eval_two (kk := 4) (op := 3) (cr := ca) (HRA.out.1.below Bb1.out) (HE.out _ Bb1.out).tb HRA.out.2 HTAr.out (HG.out.below Bb1.out) HRTe.out HCe.out (heap_alloc_new Wd0 (.cells #[.int .i64 1, .int .i64 0, .int .i64 1, .int .i64 1, .string ⟨#[]⟩, .string ⟨#[]⟩, .string ⟨#[]⟩, .int .i64 0, .int .i64 0, .slice none 0 0, .int .i64 e.k, .int .i64 e.op, .int .i64 e.v.k, .int .i64 e.v.n, .string e.v.s, .string ⟨e.t.toArray⟩, .string ⟨e.n.toArray⟩, .int .i64 e.c, .int .i64 e.y, .slice p e.xs.length c] 26)) rt_yes (dec_or (m + 1) a m))
    clear BAk
    go_upto_region 10 with (first
      | (go_at_call 12; go_loud (with_reducible refine D1.out.mono ?_); rintro r w1e ⟨rfl, b7⟩; have HXc1 := hid (HXb1.out.below b7); have Bc1 := hid (Bb1.out.trans (b7.mono Bb1.out.size)); have N0c1 := hid (N0b1.out.below b7); have N1c1 := hid (N1b1.out.below b7); have N2c1 := hid (N2b1.out.below b7); have M0c1 := hid (M0b1.out.below b7); clear b7)
      | fail)
    have BAl := albl w1e (.cells #[.int .i64 1, .int .i64 1, .string ⟨#[]⟩] 23)
    have HXd1 := hid (HXc1.out.below BAl)
    have Bd1 := hid (Bc1.out.trans (BAl.mono Bc1.out.size))
    have N0d1 := hid (N0c1.out.below BAl)
    have N1d1 := hid (N1c1.out.below BAl)
    have N2d1 := hid (N2c1.out.below BAl)
    have M0d1 := hid (M0c1.out.below BAl)
    have M1d1 := hid (VV.new w1e 1 1 ⟨#[]⟩)
    clear BAl x0 x1 x2 x3 x4 x5 x6 x7 x8 x9 y0 y1 y2 y3 y4 y5 y6 y7 y8 y9
    generalize hWd1 : World.alloc w1e _ = Wd1 at *
    clear hWd1
    generalize w1e.heap.size = v1 at *
    obtain ⟨x0, x1, x2, x3, x4, x5, x6, x7, x8, x9⟩ := HXd1.out.cells
    obtain ⟨y0, y1, y2, y3, y4, y5, y6, y7, y8, y9⟩ := N2d1.out.cells
    have BAk := albl Wd1 (.cells #[.int .i64 1, .int .i64 0, .int .i64 2, .int .i64 n, .string ⟨#[]⟩, .string ⟨#[]⟩, .string ⟨#[]⟩, .int .i64 0, .int .i64 0, .slice none 0 0, .int .i64 e.k, .int .i64 e.op, .int .i64 e.v.k, .int .i64 e.v.n, .string e.v.s, .string ⟨e.t.toArray⟩, .string ⟨e.n.toArray⟩, .int .i64 e.c, .int .i64 e.y, .slice p e.xs.length c] 26)
    have Bb2 := hid (Bd1.out.trans (BAk.mono Bd1.out.size))
    have HXb2 := hid (HXd1.out.below BAk)
    have N0b2 := hid (N0d1.out.below BAk)
    have N1b2 := hid (N1d1.out.below BAk)
    have N2b2 := hid (N2d1.out.below BAk)
    have M0b2 := hid (M0d1.out.below BAk)
    have M1b2 := hid (M1d1.out.below BAk)
    have D2 := hid (eval_two (kk := 5) (op := 6) (cr := ca) (HRA.out.1.below Bb2.out) (HE.out _ Bb2.out).tb HRA.out.2 HTAr.out (HG.out.below Bb2.out) HRTe.out HCe.out (heap_alloc_new Wd1 (.cells #[.int .i64 1, .int .i64 0, .int .i64 2, .int .i64 n, .string ⟨#[]⟩, .string ⟨#[]⟩, .string ⟨#[]⟩, .int .i64 0, .int .i64 0, .slice none 0 0, .int .i64 e.k, .int .i64 e.op, .int .i64 e.v.k, .int .i64 e.v.n, .string e.v.s, .string ⟨e.t.toArray⟩, .string ⟨e.n.toArray⟩, .int .i64 e.c, .int .i64 e.y, .slice p e.xs.length c] 26)) HRN.out (dec_coal (m + 1) a m n))
    clear BAk
    go_upto_region 11 with (first
      | (go_at_call 12; go_loud (with_reducible refine D2.out.mono ?_); rintro r w2e ⟨rfl, b7⟩; have HXc2 := hid (HXb2.out.below b7); have Bc2 := hid (Bb2.out.trans (b7.mono Bb2.out.size)); have N0c2 := hid (N0b2.out.below b7); have N1c2 := hid (N1b2.out.below b7); have N2c2 := hid (N2b2.out.below b7); have M0c2 := hid (M0b2.out.below b7); have M1c2 := hid (M1b2.out.below b7); clear b7)
      | fail)
    have BAl := albl w2e (.cells #[.int .i64 2, .int .i64 n, .string ⟨#[]⟩] 23)
    have HXd2 := hid (HXc2.out.below BAl)
    have Bd2 := hid (Bc2.out.trans (BAl.mono Bc2.out.size))
    have N0d2 := hid (N0c2.out.below BAl)
    have N1d2 := hid (N1c2.out.below BAl)
    have N2d2 := hid (N2c2.out.below BAl)
    have M0d2 := hid (M0c2.out.below BAl)
    have M1d2 := hid (M1c2.out.below BAl)
    have M2d2 := hid (VV.new w2e 2 n ⟨#[]⟩)
    clear BAl x0 x1 x2 x3 x4 x5 x6 x7 x8 x9 y0 y1 y2 y3 y4 y5 y6 y7 y8 y9
    generalize hWd2 : World.alloc w2e _ = Wd2 at *
    clear hWd2
    generalize w2e.heap.size = v2 at *
    obtain ⟨_, _, x00, x01, x02, _⟩ := N0d2.out.cells
    obtain ⟨y00, y01, y02⟩ := M0d2.out.cells
    have hl0 := N0d2.out.lt
    obtain ⟨_, _, x10, x11, x12, _⟩ := N1d2.out.cells
    obtain ⟨y10, y11, y12⟩ := M1d2.out.cells
    have hl1 := N1d2.out.lt
    obtain ⟨_, _, x20, x21, x22, _⟩ := N2d2.out.cells
    obtain ⟨y20, y21, y22⟩ := M2d2.out.cells
    have hl2 := N2d2.out.lt
    go_wp2_with fail
    go_ret
    exact ⟨rfl, Bd2.out⟩
end Go.Proofs.YtblkhlhhlalbkaaGreatDoor
