/- What pair of package expr's writer does, if expr does what it must. Conditions: the tables lie in memory as their text lays them; the bytes lie within the reach. -/
import Derived.Test.YtfhhigablibeoaaGreatDoorExOpd
import Derived.Test.YtfhhigablibeoaaGreatDoorShelf
import Derived.Deep.RegionHeldLaw
namespace Go.Proofs.YtfhhigablibeoaaGreatDoor
open Go.RowKit Go.Lib Go.Sort
set_option linter.unusedVariables false
set_option maxRecDepth 20000

theorem oprs_ok : ∀ o ∈ oprs, (o.txt.length ≤ 3 ∧ ∀ b ∈ o.txt, b.toNat < 128) ∧ 1 ≤ o.line ∧ o.line ≤ 8 := by decide
theorem cals_ok : ∀ o ∈ cals, o.name.length ≤ 8 ∧ (∀ b ∈ o.name, b.toNat < 128) := by decide
theorem opOf_mem {k op : Int} {o : Opr} (h : opOf k op = some o) : o ∈ oprs := List.mem_of_find?_eq_some h
theorem calOf_mem {k op : Int} {o : Cal} (h : calOf k op = some o) : o ∈ cals := List.mem_of_find?_eq_some h
theorem upper_len (l : List UInt8) : (toUpperA l).length = l.length := by simp [toUpperA]
theorem upper_any (l : List UInt8) (hl : l.length ≤ 100) (ha : ∀ b ∈ l, b.toNat < 128) (w : World) : Calls Tryz.prog 43 #[.string ⟨l.toArray⟩] w fun e w' => e = .returned (.string ⟨(toUpperA l).toArray⟩) ∧ Below w.heap.size w w' := by
  have := Tryz.strings_ToUpper_ascii ⟨l.toArray⟩ w (by show l.length ≤ _; omega) (fun j b hj => ha b (List.mem_of_getElem? hj))
  exact this
theorem eat_opd {w0 X : World} {m : Nat} {e : Ex} {p : Option Addr} (h : EAt w0 (fun _ => True) (m + 1) e p) (B : Below w0.heap.size w0 X) {i : Nat} (hi : i < e.xs.length) : ∃ blk off q c, p = some ⟨blk, off, none⟩ ∧ XC X blk (off + i * 10) e.xs[i] q c ∧ EAt w0 (fun _ => True) m e.xs[i] q ∧ blk < w0.heap.size := by
  rcases h with h | ⟨blk, off, hp, _, hc⟩
  · rw [h] at hi; simp at hi
  · obtain ⟨q, c, h1, h2⟩ := hc i hi
    exact ⟨blk, off, q, c, hp, h1.chg (F := fun _ => False) (Chg.of_below B) id, h2, cell_lt h1.1⟩
theorem Cx.old {w0 w : World} {F G : Nat → Prop} (h : Cx w0 w F) (hg : ∀ k, G k → F k ∨ w.heap.size ≤ k) {k : Nat} (hk : k < w0.heap.size) : ¬ G k := fun q => by
  have hs := h.B.size
  rcases hg k q with r | r
  · have := h.F0 k r; omega
  · omega
/-- A variable that holds an operator. -/
def OB (w : World) (b : Nat) (o : Opr) : Prop := w.heap[b]? = some (.cells #[.int .i64 o.kind, .int .i64 o.op, .int .i64 o.tok, .string ⟨o.txt.toArray⟩, .int .i64 o.line] 87 (0, 0))
theorem OB.lt {w : World} {b : Nat} {o : Opr} (h : OB w b o) : b < w.heap.size := (Array.getElem?_eq_some_iff.1 h).1
theorem OB.chg {F : Nat → Prop} {w w' : World} {b : Nat} {o : Opr} (h : OB w b o) (C : Chg F w w') (hn : ¬ F b) : OB w' b o := (C.block b h.lt hn).trans h
theorem OB.below {w w' : World} {b : Nat} {o : Opr} (h : OB w b o) (B : Below w.heap.size w w') : OB w' b o := (B.block b h.lt).trans h
theorem OB.cells {w : World} {b : Nat} {o : Opr} (h : OB w b o) : w.cell? ⟨b, 0, none⟩ = some (.int .i64 o.kind) ∧ w.cell? ⟨b, 1, none⟩ = some (.int .i64 o.op) ∧ w.cell? ⟨b, 2, none⟩ = some (.int .i64 o.tok) ∧ w.cell? ⟨b, 3, none⟩ = some (.string ⟨o.txt.toArray⟩) ∧ w.cell? ⟨b, 4, none⟩ = some (.int .i64 o.line) := by
  refine ⟨?_, ?_, ?_, ?_, ?_⟩ <;> (rw [Lib.cell_of_heap h]; rfl)
/-- Two operands and what stands between them. -/
def prP (o : Opr) (x y : Ex) : List UInt8 := wrapB (if o.line = 4 then 5 else o.line) (x.line, prE x) ++ 32 :: (toUpperA o.txt ++ 32 :: wrapB (o.line + 1) (y.line, prE y))
set_option maxHeartbeats 8000000 in
theorem pair_any {w0 w : World} {F : Nat → Prop} {b m : Nat} {l : List UInt8} (HE : ExprOk w0 m) (hc : Cx w0 w F) (h : WF F b l w) (op : Int) (v : Val) (t n : List UInt8) (x y : Ex) (p : Option Addr) (c : Nat) (o : Opr) (ho : opOf 4 op = some o) (okx : OkE m x) (oky : OkE m y)
    (eat : EAt w0 (fun _ => True) (m + 1) ⟨4, op, v, t, n, [x, y]⟩ p) (hlen : l.length + (prP o x y).length ≤ 140737488351232) :
    Calls Tryz.prog 45 #[.pointer (some ⟨b, 0, none⟩), .agg #[.int .i64 4, .int .i64 op, .int .i64 v.k, .int .i64 v.n, .string v.s, .string ⟨t.toArray⟩, .string ⟨n.toArray⟩, .int .i64 0, .int .i64 0, .slice p 2 c]] w fun r w' => r = .returned (.tuple #[]) ∧ WrE F b (l ++ prP o x y) w w' := by
  have HX := hid (BG.new w 4 op v.k v.n 0 0 v.s ⟨t.toArray⟩ ⟨n.toArray⟩ p 2 c)
  have S0 := hid ((WS.start h hc.F1).alloc (.cells #[.int .i64 4, .int .i64 op, .int .i64 v.k, .int .i64 v.n, .string v.s, .string ⟨t.toArray⟩, .string ⟨n.toArray⟩, .int .i64 0, .int .i64 0, .slice p 2 c] 32))
  have HC := hid hc
  have HEE := hid HE
  have HKx := hid okx
  have HKy := hid oky
  have HA0 := hid (fun X (B : Below w0.heap.size w0 X) => eat_opd eat B (i := 0) (by simp))
  have HA1 := hid (fun X (B : Below w0.heap.size w0 X) => eat_opd eat B (i := 1) (by simp))
  have HOP := hid (fun w (g : Gl w) => operatorOf_any 4 op v.k v.n 0 0 v.s ⟨t.toArray⟩ ⟨n.toArray⟩ p 2 c w g)
  rw [ho] at HOP
  unfold oprO at HOP
  simp only [Option.isSome_some] at HOP
  have hmem := oprs_ok o (opOf_mem ho)
  have HU := hid (fun w => upper_any o.txt (by omega) hmem.1.2 w)
  have hl1 := hmem.2.1
  have hl8 := hmem.2.2
  clear h hc HE okx oky eat ho hmem
  obtain ⟨lf, hlf⟩ : ∃ lf, lf = (if o.line = 4 then 5 else o.line) := ⟨_, rfl⟩
  unfold prP at hlen ⊢
  rw [← hlf] at hlen ⊢
  have hwr : IntKind.i64.wrap (o.line + 1) = o.line + 1 := by rw [IntKind.wrap_i64]; omega
  have hL1 : l.length + (wrapB lf (x.line, prE x)).length ≤ 140737488351232 := by simp at hlen ⊢; omega
  have hL2 : (l ++ wrapB lf (x.line, prE x)).length + ([32] ++ (toUpperA o.txt ++ [32])).length ≤ 140737488351232 := by simp at hlen ⊢; omega
  have hL3 : (l ++ wrapB lf (x.line, prE x) ++ ([32] ++ (toUpperA o.txt ++ [32]))).length + (wrapB (o.line + 1) (y.line, prE y)).length ≤ 140737488351232 := by simp at hlen ⊢; omega
  have HL1 := hid hL1
  have HL2 := hid hL2
  have HL3 := hid hL3
  clear hlen hL1 hL2 hL3
  go_enter Tryz.func45, Tryz.ntmps45
  go_upto_region 1 with fail
  generalize hW : w.alloc _ = W at *
  clear hW
  have hXl := HX.out.lt
  obtain ⟨x0, x1, x2, x3, x4, x5, x6, x7, x8, x9⟩ := HX.out.cells
  have T1 := hid (HOP.out W (HC.out.gl' S0.out))
  go_upto_region 2 with (go_at_call 42; with_reducible refine T1.out.mono ?_; rintro r w2 ⟨rfl, b2⟩
                         have HX2 := hid (HX.out.below b2)
                         have S2 := hid (S0.out.below b2)
                         clear b2 x0 x1 x2 x3 x4 x5 x6 x7 x8 x9)
  have S3 := hid (S2.out.alloc (.cells #[.int .i64 o.kind, .int .i64 o.op, .int .i64 o.tok, .string ⟨o.txt.toArray⟩, .int .i64 o.line] 87))
  have HX3 := hid (HX2.out.below (albl w2 (.cells #[.int .i64 o.kind, .int .i64 o.op, .int .i64 o.tok, .string ⟨o.txt.toArray⟩, .int .i64 o.line] 87)))
  have HO3 := hid (show OB (w2.alloc (.cells #[.int .i64 o.kind, .int .i64 o.op, .int .i64 o.tok, .string ⟨o.txt.toArray⟩, .int .i64 o.line] 87)) w2.heap.size o from heap_alloc_new w2 _)
  generalize hW3 : w2.alloc _ = W3 at *
  clear hW3 hXl
  have hX3l := HX3.out.lt
  have hO3l := HO3.out.lt
  obtain ⟨x0, x1, x2, x3, x4, x5, x6, x7, x8, x9⟩ := HX3.out.cells
  obtain ⟨o0, o1, o2, o3, o4⟩ := HO3.out.cells
  obtain ⟨blk, off, q, cx, rfl, hx, ex, hblk⟩ := HA0.out W3 (HC.out.low S3.out)
  simp only [Nat.zero_mul, Nat.add_zero, List.getElem_cons_zero] at hx ex
  obtain ⟨a0, a1, a2, a3, a4, a5, a6, a7, a8, a9⟩ := hx
  have T3 := hid (wsOperand HEE.out HC.out S3.out x q cx lf HKx.out ex HL1.out)
  clear ex
  by_cases h4 : o.line = 4
  · have e4 : (o.line == 4) = true := by rw [h4]; rfl
    rw [if_pos h4] at hlf
    subst hlf
    clear h4
    go_upto_region 7 with (first
      | (go_at_call 44; with_reducible refine T3.out.mono ?_; rintro r w4 ⟨rfl, s4, G4, c4, g4, _⟩
         have HX4 := hid (HX3.out.chg c4 (g4 _ (Or.inl (Or.inr rfl))))
         have HO4 := hid (HO3.out.chg c4 (g4 _ (Or.inr rfl)))
         have S4 := hid s4
         obtain ⟨p0, p1, p2, p3, p4⟩ := HO4.out.cells
         have T4 := hid (HU.out w4)
         clear s4 c4 g4)
      | (go_at_call 43; with_reducible refine T4.out.mono ?_; rintro r w5 ⟨rfl, b5⟩
         have HX5 := hid (HX4.out.below b5)
         have HO5 := hid (HO4.out.below b5)
         have S5 := hid (S4.out.below b5)
         have T5 := hid (S5.out.text HC.out.F1 [[32], toUpperA o.txt, [32]] [.string ⟨#[32]⟩, .string ⟨(toUpperA o.txt).toArray⟩, .string ⟨#[32]⟩] rfl 3 3 rfl (by have := HL2.out; simp at this ⊢; omega) (by simp))
         rw [flat3] at T5
         clear b5)
      | (go_at_call 39; with_reducible refine T5.out.mono ?_; rintro r w6 ⟨rfl, s6, G6, c6, g6, g6f⟩
         have HX6 := hid ((HX5.out.chg (Chg.of_below (F := fun _ => False) (albl w5 _)) id).chg c6 (g6 _ (Or.inl (Or.inl (Or.inr rfl)))))
         have HO6 := hid ((HO5.out.chg (Chg.of_below (F := fun _ => False) (albl w5 _)) id).chg c6 (g6 _ (Or.inl (Or.inr rfl))))
         have S6 := hid s6
         have S6d := hid (s6.below (Below.drew (Below.refl _ _)))
         clear s6 c6 g6 g6f)
      | fail)
    obtain ⟨blk', off', q', cx', ep, hx', ex', _⟩ := HA1.out w6 (HC.out.low S6.out)
    simp only [Option.some.injEq, Addr.mk.injEq, and_true] at ep
    obtain ⟨rfl, rfl⟩ := ep
    simp only [Nat.one_mul, List.getElem_cons_succ, List.getElem_cons_zero] at hx' ex'
    have T7 := hid (wsOperand HEE.out HC.out S6d.out y q' cx' (o.line + 1) HKy.out ex' HL3.out)
    have hcell : Hid (∀ (G : Nat → Prop) w7, Chg G w6.drew w7 → (∀ k, ((((False ∨ k = w.heap.size) ∨ k = w2.heap.size) ∨ k = w5.heap.size) → ¬ G k)) → ¬ G blk → (fun w' => w'.cell? ⟨w.heap.size, 9, none⟩ = some (.slice (some ⟨blk, off, none⟩) 2 c) ∧ w'.cell? ⟨blk, off + 10, none⟩ = some (.int .i64 y.k) ∧ w'.cell? ⟨blk, off + 10 + 1, none⟩ = some (.int .i64 y.op) ∧ w'.cell? ⟨blk, off + 10 + 2, none⟩ = some (.int .i64 y.v.k) ∧ w'.cell? ⟨blk, off + 10 + 3, none⟩ = some (.int .i64 y.v.n) ∧ w'.cell? ⟨blk, off + 10 + 4, none⟩ = some (.string y.v.s) ∧ w'.cell? ⟨blk, off + 10 + 5, none⟩ = some (.string ⟨y.t.toArray⟩) ∧ w'.cell? ⟨blk, off + 10 + 6, none⟩ = some (.string ⟨y.n.toArray⟩) ∧ w'.cell? ⟨blk, off + 10 + 7, none⟩ = some (.int .i64 0) ∧ w'.cell? ⟨blk, off + 10 + 8, none⟩ = some (.int .i64 0) ∧ w'.cell? ⟨blk, off + 10 + 9, none⟩ = some (.slice q' y.xs.length cx') ∧ w'.cell? ⟨w2.heap.size, 4, none⟩ = some (.int .i64 o.line)) w7) := fun G w7 c7 g7 gb => by
      have X7 := (HX6.out.below (w' := w6.drew) (Below.drew (Below.refl _ _))).chg c7 (g7 _ (Or.inl (Or.inl (Or.inr rfl))))
      have O7 := (HO6.out.below (w' := w6.drew) (Below.drew (Below.refl _ _))).chg c7 (g7 _ (Or.inl (Or.inr rfl)))
      have E7 := (hx'.chg (F := fun _ => False) (w' := w6.drew) (Chg.of_below (Below.drew (Below.refl _ _))) id).chg c7 gb
      obtain ⟨e0, e1, e2, e3, e4, e5, e6, e7, e8, e9⟩ := E7
      exact ⟨X7.cells.2.2.2.2.2.2.2.2.2, e0, e1, e2, e3, e4, e5, e6, e7, e8, e9, O7.cells.2.2.2.2⟩
    have K6 := hid (hcell.out (fun _ => False) w6.drew (Chg.refl _ _) (fun _ _ => id) id)
    clear hx' ex'
    go_region_held_law (fun w' => w'.cell? ⟨w.heap.size, 9, none⟩ = some (.slice (some ⟨blk, off, none⟩) 2 c) ∧ w'.cell? ⟨blk, off + 10, none⟩ = some (.int .i64 y.k) ∧ w'.cell? ⟨blk, off + 10 + 1, none⟩ = some (.int .i64 y.op) ∧ w'.cell? ⟨blk, off + 10 + 2, none⟩ = some (.int .i64 y.v.k) ∧ w'.cell? ⟨blk, off + 10 + 3, none⟩ = some (.int .i64 y.v.n) ∧ w'.cell? ⟨blk, off + 10 + 4, none⟩ = some (.string y.v.s) ∧ w'.cell? ⟨blk, off + 10 + 5, none⟩ = some (.string ⟨y.t.toArray⟩) ∧ w'.cell? ⟨blk, off + 10 + 6, none⟩ = some (.string ⟨y.n.toArray⟩) ∧ w'.cell? ⟨blk, off + 10 + 7, none⟩ = some (.int .i64 0) ∧ w'.cell? ⟨blk, off + 10 + 8, none⟩ = some (.int .i64 0) ∧ w'.cell? ⟨blk, off + 10 + 9, none⟩ = some (.slice q' y.xs.length cx') ∧ w'.cell? ⟨w2.heap.size, 4, none⟩ = some (.int .i64 o.line)) (first | exact K6.out | exact K7.out) (first
      | (go_at_call 44; with_reducible refine T7.out.mono ?_; rintro r w7 ⟨rfl, s7, G7, c7, g7, g7f⟩; have S7 := hid s7; have K7 := hid (hcell.out G7 w7 c7 g7 (HC.out.old g7f hblk)); clear s7 c7 g7 g7f))
    go_wp2_with fail
    refine end0 rfl rfl ⟨rfl, ?_⟩
    have := S7.out.fin
    simpa using this
  · have e4 : (o.line == 4) = false := beq_eq_false_iff_ne.2 h4
    rw [if_neg h4] at hlf
    subst hlf
    clear h4
    go_upto_region 7 with (first
      | (go_at_call 44; with_reducible refine T3.out.mono ?_; rintro r w4 ⟨rfl, s4, G4, c4, g4, _⟩
         have HX4 := hid (HX3.out.chg c4 (g4 _ (Or.inl (Or.inr rfl))))
         have HO4 := hid (HO3.out.chg c4 (g4 _ (Or.inr rfl)))
         have S4 := hid s4
         obtain ⟨p0, p1, p2, p3, p4⟩ := HO4.out.cells
         have T4 := hid (HU.out w4)
         clear s4 c4 g4)
      | (go_at_call 43; with_reducible refine T4.out.mono ?_; rintro r w5 ⟨rfl, b5⟩
         have HX5 := hid (HX4.out.below b5)
         have HO5 := hid (HO4.out.below b5)
         have S5 := hid (S4.out.below b5)
         have T5 := hid (S5.out.text HC.out.F1 [[32], toUpperA o.txt, [32]] [.string ⟨#[32]⟩, .string ⟨(toUpperA o.txt).toArray⟩, .string ⟨#[32]⟩] rfl 3 3 rfl (by have := HL2.out; simp at this ⊢; omega) (by simp))
         rw [flat3] at T5
         clear b5)
      | (go_at_call 39; with_reducible refine T5.out.mono ?_; rintro r w6 ⟨rfl, s6, G6, c6, g6, g6f⟩
         have HX6 := hid ((HX5.out.chg (Chg.of_below (F := fun _ => False) (albl w5 _)) id).chg c6 (g6 _ (Or.inl (Or.inl (Or.inr rfl)))))
         have HO6 := hid ((HO5.out.chg (Chg.of_below (F := fun _ => False) (albl w5 _)) id).chg c6 (g6 _ (Or.inl (Or.inr rfl))))
         have S6 := hid s6
         have S6d := hid (s6.below (Below.drew (Below.refl _ _)))
         clear s6 c6 g6 g6f)
      | fail)
    obtain ⟨blk', off', q', cx', ep, hx', ex', _⟩ := HA1.out w6 (HC.out.low S6.out)
    simp only [Option.some.injEq, Addr.mk.injEq, and_true] at ep
    obtain ⟨rfl, rfl⟩ := ep
    simp only [Nat.one_mul, List.getElem_cons_succ, List.getElem_cons_zero] at hx' ex'
    have T7 := hid (wsOperand HEE.out HC.out S6d.out y q' cx' (o.line + 1) HKy.out ex' HL3.out)
    have hcell : Hid (∀ (G : Nat → Prop) w7, Chg G w6.drew w7 → (∀ k, ((((False ∨ k = w.heap.size) ∨ k = w2.heap.size) ∨ k = w5.heap.size) → ¬ G k)) → ¬ G blk → (fun w' => w'.cell? ⟨w.heap.size, 9, none⟩ = some (.slice (some ⟨blk, off, none⟩) 2 c) ∧ w'.cell? ⟨blk, off + 10, none⟩ = some (.int .i64 y.k) ∧ w'.cell? ⟨blk, off + 10 + 1, none⟩ = some (.int .i64 y.op) ∧ w'.cell? ⟨blk, off + 10 + 2, none⟩ = some (.int .i64 y.v.k) ∧ w'.cell? ⟨blk, off + 10 + 3, none⟩ = some (.int .i64 y.v.n) ∧ w'.cell? ⟨blk, off + 10 + 4, none⟩ = some (.string y.v.s) ∧ w'.cell? ⟨blk, off + 10 + 5, none⟩ = some (.string ⟨y.t.toArray⟩) ∧ w'.cell? ⟨blk, off + 10 + 6, none⟩ = some (.string ⟨y.n.toArray⟩) ∧ w'.cell? ⟨blk, off + 10 + 7, none⟩ = some (.int .i64 0) ∧ w'.cell? ⟨blk, off + 10 + 8, none⟩ = some (.int .i64 0) ∧ w'.cell? ⟨blk, off + 10 + 9, none⟩ = some (.slice q' y.xs.length cx') ∧ w'.cell? ⟨w2.heap.size, 4, none⟩ = some (.int .i64 o.line)) w7) := fun G w7 c7 g7 gb => by
      have X7 := (HX6.out.below (w' := w6.drew) (Below.drew (Below.refl _ _))).chg c7 (g7 _ (Or.inl (Or.inl (Or.inr rfl))))
      have O7 := (HO6.out.below (w' := w6.drew) (Below.drew (Below.refl _ _))).chg c7 (g7 _ (Or.inl (Or.inr rfl)))
      have E7 := (hx'.chg (F := fun _ => False) (w' := w6.drew) (Chg.of_below (Below.drew (Below.refl _ _))) id).chg c7 gb
      obtain ⟨e0, e1, e2, e3, e4, e5, e6, e7, e8, e9⟩ := E7
      exact ⟨X7.cells.2.2.2.2.2.2.2.2.2, e0, e1, e2, e3, e4, e5, e6, e7, e8, e9, O7.cells.2.2.2.2⟩
    have K6 := hid (hcell.out (fun _ => False) w6.drew (Chg.refl _ _) (fun _ _ => id) id)
    clear hx' ex'
    go_region_held_law (fun w' => w'.cell? ⟨w.heap.size, 9, none⟩ = some (.slice (some ⟨blk, off, none⟩) 2 c) ∧ w'.cell? ⟨blk, off + 10, none⟩ = some (.int .i64 y.k) ∧ w'.cell? ⟨blk, off + 10 + 1, none⟩ = some (.int .i64 y.op) ∧ w'.cell? ⟨blk, off + 10 + 2, none⟩ = some (.int .i64 y.v.k) ∧ w'.cell? ⟨blk, off + 10 + 3, none⟩ = some (.int .i64 y.v.n) ∧ w'.cell? ⟨blk, off + 10 + 4, none⟩ = some (.string y.v.s) ∧ w'.cell? ⟨blk, off + 10 + 5, none⟩ = some (.string ⟨y.t.toArray⟩) ∧ w'.cell? ⟨blk, off + 10 + 6, none⟩ = some (.string ⟨y.n.toArray⟩) ∧ w'.cell? ⟨blk, off + 10 + 7, none⟩ = some (.int .i64 0) ∧ w'.cell? ⟨blk, off + 10 + 8, none⟩ = some (.int .i64 0) ∧ w'.cell? ⟨blk, off + 10 + 9, none⟩ = some (.slice q' y.xs.length cx') ∧ w'.cell? ⟨w2.heap.size, 4, none⟩ = some (.int .i64 o.line)) (first | exact K6.out | exact K7.out) (first
      | (go_at_call 44; with_reducible refine T7.out.mono ?_; rintro r w7 ⟨rfl, s7, G7, c7, g7, g7f⟩; have S7 := hid s7; have K7 := hid (hcell.out G7 w7 c7 g7 (HC.out.old g7f hblk)); clear s7 c7 g7 g7f))
    go_wp2_with fail
    refine end0 rfl rfl ⟨rfl, ?_⟩
    have := S7.out.fin
    simpa using this
end Go.Proofs.YtfhhigablibeoaaGreatDoor
