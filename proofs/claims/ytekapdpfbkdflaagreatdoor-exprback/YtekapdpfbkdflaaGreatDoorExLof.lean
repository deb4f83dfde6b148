/- What lineOf and column of package expr do. Conditions: the tables lie in memory as their text lays them; the bytes lie within the reach. -/
import Derived.Test.YtekapdpfbkdflaaGreatDoorXO
import Derived.Test.YtekapdpfbkdflaaGreatDoorXP
namespace Go.Proofs.YtekapdpfbkdflaaGreatDoor
open Go.RowKit Go.Lib Go.Sort
set_option linter.unusedVariables false
set_option maxRecDepth 20000

/-- A variable that holds an expression, its fields as they come. -/
def BG (w : World) (b : Nat) (k0 o0 vk vn j0 j1 : Int) (vs ts ns : ByteArray) (p0 : Option Addr) (n0 c0 : Nat) : Prop := w.heap[b]? = some (.cells #[.int .i64 k0, .int .i64 o0, .int .i64 vk, .int .i64 vn, .string vs, .string ts, .string ns, .int .i64 j0, .int .i64 j1, .slice p0 n0 c0] 32 (0, 0))
theorem BG.new (w : World) (k0 o0 vk vn j0 j1 : Int) (vs ts ns : ByteArray) (p0 : Option Addr) (n0 c0 : Nat) : BG (w.alloc (.cells #[.int .i64 k0, .int .i64 o0, .int .i64 vk, .int .i64 vn, .string vs, .string ts, .string ns, .int .i64 j0, .int .i64 j1, .slice p0 n0 c0] 32)) w.heap.size k0 o0 vk vn j0 j1 vs ts ns p0 n0 c0 := heap_alloc_new w _
theorem BG.lt {w : World} {b : Nat} {k0 o0 vk vn j0 j1 : Int} {vs ts ns : ByteArray} {p0 : Option Addr} {n0 c0 : Nat} (h : BG w b k0 o0 vk vn j0 j1 vs ts ns p0 n0 c0) : b < w.heap.size := (Array.getElem?_eq_some_iff.1 h).1
theorem BG.chg {F : Nat → Prop} {w w' : World} {b : Nat} {k0 o0 vk vn j0 j1 : Int} {vs ts ns : ByteArray} {p0 : Option Addr} {n0 c0 : Nat} (h : BG w b k0 o0 vk vn j0 j1 vs ts ns p0 n0 c0) (C : Chg F w w') (hn : ¬ F b) : BG w' b k0 o0 vk vn j0 j1 vs ts ns p0 n0 c0 := (C.block b h.lt hn).trans h
theorem BG.below {w w' : World} {b : Nat} {k0 o0 vk vn j0 j1 : Int} {vs ts ns : ByteArray} {p0 : Option Addr} {n0 c0 : Nat} (h : BG w b k0 o0 vk vn j0 j1 vs ts ns p0 n0 c0) (B : Below w.heap.size w w') : BG w' b k0 o0 vk vn j0 j1 vs ts ns p0 n0 c0 := (B.block b h.lt).trans h
theorem BG.cells {w : World} {b : Nat} {k0 o0 vk vn j0 j1 : Int} {vs ts ns : ByteArray} {p0 : Option Addr} {n0 c0 : Nat} (h : BG w b k0 o0 vk vn j0 j1 vs ts ns p0 n0 c0) :
    w.cell? ⟨b, 0, none⟩ = some (.int .i64 k0) ∧ w.cell? ⟨b, 1, none⟩ = some (.int .i64 o0) ∧ w.cell? ⟨b, 2, none⟩ = some (.int .i64 vk) ∧ w.cell? ⟨b, 3, none⟩ = some (.int .i64 vn) ∧ w.cell? ⟨b, 4, none⟩ = some (.string vs) ∧ w.cell? ⟨b, 5, none⟩ = some (.string ts) ∧ w.cell? ⟨b, 6, none⟩ = some (.string ns) ∧ w.cell? ⟨b, 7, none⟩ = some (.int .i64 j0) ∧ w.cell? ⟨b, 8, none⟩ = some (.int .i64 j1) ∧ w.cell? ⟨b, 9, none⟩ = some (.slice p0 n0 c0) := by
  refine ⟨?_, ?_, ?_, ?_, ?_, ?_, ?_, ?_, ?_, ?_⟩ <;> (rw [Lib.cell_of_heap h]; rfl)
theorem Gl.below {w w' : World} (h : Gl w) (B : Below w.heap.size w w') : Gl w' := h.chg (F := fun _ => False) (Chg.of_below B) id id
set_option maxHeartbeats 4000000 in
theorem lineof_any (k0 o0 vk vn j0 j1 : Int) (vs ts ns : ByteArray) (p0 : Option Addr) (n0 c0 : Nat) (w : World) (h : Gl w) :
    Calls Tryz.prog 86 #[.agg #[.int .i64 k0, .int .i64 o0, .int .i64 vk, .int .i64 vn, .string vs, .string ts, .string ns, .int .i64 j0, .int .i64 j1, .slice p0 n0 c0]] w fun e w' => e = .returned (.int .i64 (lineB k0 o0 n0)) ∧ Below w.heap.size w w' := by
  have B0 := albl w (.cells #[.int .i64 k0, .int .i64 o0, .int .i64 vk, .int .i64 vn, .string vs, .string ts, .string ns, .int .i64 j0, .int .i64 j1, .slice p0 n0 c0] 32)
  have HB0 := hid B0
  have HG := hid (h.below B0)
  have HX := hid (BG.new w k0 o0 vk vn j0 j1 vs ts ns p0 n0 c0)
  have C := hid (fits_any k0 o0 vk vn j0 j1 vs ts ns p0 n0 c0 _ (h.below B0))
  have HO := hid (fun w (g : Gl w) => operatorOf_any k0 o0 vk vn j0 j1 vs ts ns p0 n0 c0 w g)
  unfold FitsOk at C
  unfold lineB
  cases hb : fitsB k0 o0 n0 with
  | false =>
    rw [hb] at C
    rw [if_pos rfl]
    clear B0 h hb
    go_enter Tryz.func86, Tryz.ntmps86
    go_wp2_with (go_at_call 38; with_reducible refine C.out.mono ?_; rintro e w2 ⟨rfl, b2⟩; have B2 := hid (lxbelow_new b2); clear b2)
    go_ret
    exact ⟨rfl, B2.out⟩
  | true =>
    rw [hb] at C
    rw [if_neg (by simp)]
    clear B0 h hb
    cases ho : opOf k0 o0 with
    | some o =>
      rw [ho] at HO
      unfold oprO at HO
      simp only [Option.isSome_some] at HO ⊢
      clear ho
      go_enter Tryz.func86, Tryz.ntmps86
      go_wp2_with (first
        | (go_at_call 38; with_reducible refine C.out.mono ?_; rintro e w2 ⟨rfl, b2⟩; have B2 := hid (lxbelow_new b2); obtain ⟨x0, x1, x2, x3, x4, x5, x6, x7, x8, x9⟩ := (HX.out.below b2).cells; have C2 := hid (HO.out _ (HG.out.below b2)); clear b2)
        | (go_at_call 42; with_reducible refine C2.out.mono ?_; rintro e w3 ⟨rfl, b3⟩; have B3 := hid (B2.out.trans (b3.mono B2.out.size)); clear b3)
        | fail)
      go_ret
      exact ⟨rfl, B3.out.alloc B3.out.size _⟩
    | none =>
      rw [ho] at HO
      unfold oprO at HO
      simp only [Option.isSome_none] at HO ⊢
      clear ho
      by_cases h7 : k0 = 7
      · rw [if_pos h7]
        subst h7
        go_enter Tryz.func86, Tryz.ntmps86
        go_wp2_with (first
          | (go_at_call 38; with_reducible refine C.out.mono ?_; rintro e w2 ⟨rfl, b2⟩; have B2 := hid (lxbelow_new b2); have HX2 := hid (HX.out.below b2); obtain ⟨x0, x1, x2, x3, x4, x5, x6, x7, x8, x9⟩ := HX2.out.cells; have C2 := hid (HO.out _ (HG.out.below b2)); clear b2)
          | (go_at_call 42; with_reducible refine C2.out.mono ?_; rintro e w3 ⟨rfl, b3⟩; have B3 := hid (B2.out.trans (b3.mono B2.out.size)); obtain ⟨y0, y1, y2, y3, y4, y5, y6, y7, y8, y9⟩ := (HX2.out.below b3).cells; have l3 := (HX2.out.below b3).lt; clear b3)
          | fail)
        go_ret
        exact ⟨rfl, B3.out.alloc B3.out.size _⟩
      · rw [if_neg h7]
        have e7 : (k0 == 7) = false := beq_eq_false_iff_ne.2 h7
        clear h7
        go_enter Tryz.func86, Tryz.ntmps86
        go_wp2_with (first
          | (go_at_call 38; with_reducible refine C.out.mono ?_; rintro e w2 ⟨rfl, b2⟩; have B2 := hid (lxbelow_new b2); have HX2 := hid (HX.out.below b2); obtain ⟨x0, x1, x2, x3, x4, x5, x6, x7, x8, x9⟩ := HX2.out.cells; have C2 := hid (HO.out _ (HG.out.below b2)); clear b2)
          | (go_at_call 42; with_reducible refine C2.out.mono ?_; rintro e w3 ⟨rfl, b3⟩; have B3 := hid (B2.out.trans (b3.mono B2.out.size)); obtain ⟨y0, y1, y2, y3, y4, y5, y6, y7, y8, y9⟩ := (HX2.out.below b3).cells; have l3 := (HX2.out.below b3).lt; clear b3)
          | fail)
        go_ret
        exact ⟨rfl, B3.out.alloc B3.out.size _⟩

theorem flat1 (l a : List UInt8) : l ++ [a].flatten = l ++ a := by simp
theorem flat2 (l a b : List UInt8) : l ++ [a, b].flatten = l ++ (a ++ b) := by simp
theorem flat3 (l a b c : List UInt8) : l ++ [a, b, c].flatten = l ++ (a ++ (b ++ c)) := by simp
set_option maxHeartbeats 4000000 in
theorem wcolumn_any {F : Nat → Prop} {b : Nat} {l : List UInt8} {w : World} (k0 o0 vk vn j0 j1 : Int) (vs : ByteArray) (t n : List UInt8) (p0 : Option Addr) (n0 c0 : Nat) (h : WF F b l w) (hF : ∀ k, F k → k < w.heap.size) (hlen : l.length + (colB t n).length ≤ 140737488351232) :
    Calls Tryz.prog 41 #[.pointer (some ⟨b, 0, none⟩), .agg #[.int .i64 k0, .int .i64 o0, .int .i64 vk, .int .i64 vn, .string vs, .string ⟨t.toArray⟩, .string ⟨n.toArray⟩, .int .i64 j0, .int .i64 j1, .slice p0 n0 c0]] w fun e w' => e = .returned (.tuple #[]) ∧ WrE F b (l ++ colB t n) w w' := by
  have HX := hid (BG.new w k0 o0 vk vn j0 j1 vs ⟨t.toArray⟩ ⟨n.toArray⟩ p0 n0 c0)
  have HF := hid hF
  have S0 := hid ((WS.start h hF).alloc (.cells #[.int .i64 k0, .int .i64 o0, .int .i64 vk, .int .i64 vn, .string vs, .string ⟨t.toArray⟩, .string ⟨n.toArray⟩, .int .i64 j0, .int .i64 j1, .slice p0 n0 c0] 32))
  have HL := hid hlen
  clear h hF hlen
  unfold colB at HL ⊢
  by_cases ht : t = []
  · subst ht
    rw [if_pos rfl] at HL ⊢
    go_enter Tryz.func41, Tryz.ntmps41
    go_upto_region 1 with fail
    generalize hW : w.alloc _ = W at *
    clear hW
    obtain ⟨x0, x1, x2, x3, x4, x5, x6, x7, x8, x9⟩ := HX.out.cells
    have T1 := hid (S0.out.text HF.out [n] [.string ⟨n.toArray⟩] rfl 1 1 rfl (by have := HL.out; simpa using this) (by simp))
    rw [flat1] at T1
    go_wp2_with (first
      | (go_at_call 39; with_reducible refine T1.out.mono ?_; rintro e w2 ⟨rfl, s2, _⟩; have S2 := hid s2; clear s2)
      | fail)
    exact end0 rfl rfl ⟨rfl, S2.out.fin⟩
  · rw [if_neg ht] at HL ⊢
    have hte : t.isEmpty = false := by simpa using ht
    clear ht
    go_enter Tryz.func41, Tryz.ntmps41
    go_upto_region 1 with fail
    generalize hW : w.alloc _ = W at *
    clear hW
    have hXl := HX.out.lt
    obtain ⟨x0, x1, x2, x3, x4, x5, x6, x7, x8, x9⟩ := HX.out.cells
    have T1 := hid (S0.out.text HF.out [t, [46]] [.string ⟨t.toArray⟩, .string ⟨#[46]⟩] rfl 2 2 rfl (by have := HL.out; simp at this ⊢; omega) (by simp))
    rw [flat2] at T1
    go_wp2_with (first
      | (go_at_call 39; with_reducible refine T1.out.mono ?_; rintro e w2 ⟨rfl, s2, G, c2, g2, _⟩
         have hX2 := (HX.out.chg (Chg.of_below (F := fun _ => False) (albl W _)) id).chg c2 (g2 _ (Or.inl (Or.inr rfl)))
         obtain ⟨y0, y1, y2, y3, y4, y5, y6, y7, y8, y9⟩ := hX2.cells
         have S2 := hid s2
         have T2 := hid (S2.out.text HF.out [n] [.string ⟨n.toArray⟩] rfl 1 1 rfl (by have := HL.out; simp at this ⊢; omega) (by simp)); rw [flat1] at T2; clear s2 c2 g2 hX2)
      | (go_at_call 39; with_reducible refine T2.out.mono ?_; rintro e w3 ⟨rfl, s3, _⟩; have S3 := hid s3; clear s3)
      | fail)
    refine end0 rfl rfl ⟨rfl, ?_⟩
    have := S3.out.fin
    simpa using this
end Go.Proofs.YtekapdpfbkdflaaGreatDoor
