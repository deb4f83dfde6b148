/- Bytes, cells, keys, kids and nodes in memory, within a set of blocks; rows of them that a call owns; what append does with these. Conditions: they lie within the reach. -/
import Derived.Test.YtilmlegkkgiahaaNdBytes
namespace Go.Proofs.Ytilmlegkkgiahaa
open Go.RowKit Go.Lib
set_option linter.unusedVariables false
set_option maxRecDepth 20000

/-- The blocks of a set are as they were. -/
def Kp (F : Nat → Prop) (w w' : World) : Prop := ∀ k, k < w.heap.size → F k → w'.heap[k]? = w.heap[k]?
theorem Kp.of_below {F : Nat → Prop} {w w' : World} (B : Below w.heap.size w w') : Kp F w w' := fun k hk _ => B.block k hk
theorem Kp.of_belowN {F : Nat → Prop} {w w' : World} {base : Nat} (B : Below base w w') (h : ∀ k, F k → k < base) : Kp F w w' := fun k _ hF => B.block k (h k hF)
theorem Kp.of_chg {F G : Nat → Prop} {w w' : World} (C : Chg G w w') (h : ∀ k, F k → ¬ G k) : Kp F w w' := fun k hk hF => C.block k hk (h k hF)
theorem Kp.of_grown {F : Nat → Prop} {w w' : World} {row : Option Nat} (g : w.grownBy w' row) (h : ∀ k, F k → row ≠ some k) : Kp F w w' := fun k hk hF => g.block k hk (fun e => h k hF e.symm)
theorem Kp.of_set {F : Nat → Prop} {w : World} {g i : Nat} {x : Value} (h : ¬ F g) : Kp F w (w.setCell ⟨g, i, none⟩ x) := fun k _ hF => Below.heap_setCell _ _ _ _ (by rintro rfl; exact h hF)
theorem Kp.cell {F : Nat → Prop} {w w' : World} (K : Kp F w w') {b o : Nat} {v : Value} (hF : F b) (h : w.cell? ⟨b, o, none⟩ = some v) : w'.cell? ⟨b, o, none⟩ = some v :=
  (World.cell?_of_block (w := w) (a := ⟨b, o, none⟩) (K b (cell_lt h) hF)).trans h

/-- Bytes in memory. -/
def Byts (w : World) (F : Nat → Prop) (p : Option Addr) (l : List UInt8) : Prop :=
  l = [] ∨ ∃ b off, p = some ⟨b, off, none⟩ ∧ F b ∧ ∀ i (h : i < l.length), w.cell? ⟨b, off + i, none⟩ = some (.int .u8 (l[i].toNat : Int))
theorem Byts.kp {w w' : World} {F : Nat → Prop} {p : Option Addr} {l : List UInt8} (h : Byts w F p l) (K : Kp F w w') : Byts w' F p l := by
  rcases h with h | ⟨b, off, hp, hF, hc⟩
  · exact Or.inl h
  · exact Or.inr ⟨b, off, hp, hF, fun i hi => K.cell hF (hc i hi)⟩
theorem Byts.mono {w : World} {F G : Nat → Prop} {p : Option Addr} {l : List UInt8} (h : Byts w F p l) (hG : ∀ k, k < w.heap.size → F k → G k) : Byts w G p l := by
  rcases h with h | ⟨b, off, hp, hF, hc⟩
  · exact Or.inl h
  · by_cases h0 : l = []
    · exact Or.inl h0
    · exact Or.inr ⟨b, off, hp, hG b (cell_lt (hc 0 (List.length_pos_iff.2 h0))) hF, hc⟩
theorem Byts.below {w w' : World} {F : Nat → Prop} {p : Option Addr} {l : List UInt8} (h : Byts w F p l) (B : Below w.heap.size w w') : Byts w' F p l := h.kp (Kp.of_below B)
theorem Byts.at {w : World} {F : Nat → Prop} {p : Option Addr} {l : List UInt8} (h : Byts w F p l) {i : Nat} (hi : i < l.length) : ∃ b off, p = some ⟨b, off, none⟩ ∧ F b ∧ w.cell? ⟨b, off + i, none⟩ = some (.int .u8 (l[i].toNat : Int)) := by
  rcases h with h | ⟨b, off, hp, hF, hc⟩
  · subst h; simp at hi
  · exact ⟨b, off, hp, hF, hc i hi⟩
theorem Byts.cells {w : World} {F : Nat → Prop} {p : Option Addr} {l : List UInt8} (h : Byts w F p l) : ∀ ad, p = some ad → ∀ j u, (bcells l)[j]? = some u → w.cell? (ad.add j) = some u := by
  intro ad hp j u hu
  rcases h with h | ⟨b, off, hp', _, hc⟩
  · subst h; simp [bcells] at hu
  · rw [hp'] at hp
    obtain rfl := Option.some.inj hp
    rw [add_cell]
    have hj : j < l.length := by
      have := (List.getElem?_eq_some_iff.1 hu).1
      simpa [bcells] using this
    rw [bcells, List.getElem?_map, List.getElem?_eq_getElem hj] at hu
    simp only [Option.map_some, Option.some.injEq] at hu
    rw [← hu]
    exact hc j hj
/-- string(b). -/
theorem conv_byts {w : World} {F : Nat → Prop} {p : Option Addr} {l : List UInt8} (c : Nat) (h : Byts w F p l) : (convert 31 9 (.slice p l.length c)).run Try.prog w = .ok (.string ⟨l.toArray⟩) w := by
  rcases h with rfl | ⟨b, off, rfl, _, hc⟩
  · have := run_convert_bytes_string (P := Try.prog) w 31 9 5 p 0 c Try.underlying31 Try.underlying5 Try.underlying9
    simp only [List.length_nil]
    rw [this]
    cases p <;> rfl
  · refine run_convert_bytes_back (P := Try.prog) w 31 9 5 ⟨b, off, none⟩ c l Try.underlying31 Try.underlying5 Try.underlying9 (fun j hj => ?_)
    rw [show (⟨b, off, none⟩ : Addr).add j = ⟨b, off + j, none⟩ by unfold Addr.add; split <;> simp_all]
    exact hc j hj
theorem Byts.take {w : World} {F : Nat → Prop} {p : Option Addr} {l : List UInt8} (h : Byts w F p l) (k : Nat) : Byts w F p (l.take k) := by
  rcases h with h | ⟨b, off, hp, hF, hc⟩
  · left; rw [h]; simp
  · refine Or.inr ⟨b, off, hp, hF, fun i hi => ?_⟩
    have hi' : i < l.length := by simp at hi; omega
    rw [List.getElem_take]
    exact hc i hi'
theorem Byts.drop {w : World} {F : Nat → Prop} {b off : Nat} {l : List UInt8} (h : Byts w F (some ⟨b, off, none⟩) l) (k : Nat) : Byts w F (some ⟨b, off + k, none⟩) (l.drop k) := by
  rcases h with h | ⟨b', off', hp, hF, hc⟩
  · left; rw [h]; simp
  · simp only [Option.some.injEq, Addr.mk.injEq, and_true] at hp
    obtain ⟨rfl, rfl⟩ := hp
    refine Or.inr ⟨b, off + k, rfl, hF, fun i hi => ?_⟩
    have hi' : k + i < l.length := by simp at hi; omega
    rw [List.getElem_drop, Nat.add_assoc]
    exact hc (k + i) hi'
/-- A slice of bytes, as a value. -/
def BV (w : World) (F : Nat → Prop) (v : Value) (l : List UInt8) : Prop := ∃ p c, v = .slice p l.length c ∧ Byts w F p l ∧ l.length ≤ c ∧ (p = none → l.length = 0 ∧ c = 0) ∧ l.length ≤ 140737488351232
theorem BV.kp {w w' : World} {F : Nat → Prop} {v : Value} {l : List UInt8} (h : BV w F v l) (K : Kp F w w') : BV w' F v l := by
  obtain ⟨p, c, h1, h2, r⟩ := h
  exact ⟨p, c, h1, h2.kp K, r⟩
theorem BV.mono {w : World} {F G : Nat → Prop} {v : Value} {l : List UInt8} (h : BV w F v l) (hG : ∀ k, k < w.heap.size → F k → G k) : BV w G v l := by
  obtain ⟨p, c, h1, h2, r⟩ := h
  exact ⟨p, c, h1, h2.mono hG, r⟩
theorem BV.below {w w' : World} {F : Nat → Prop} {v : Value} {l : List UInt8} (h : BV w F v l) (B : Below w.heap.size w w') : BV w' F v l := h.kp (Kp.of_below B)
theorem BV.one {w : World} {F : Nat → Prop} {v : Value} {l : List UInt8} (h : BV w F v l) : v.oneCell' = true := by
  obtain ⟨p, c, rfl, _⟩ := h
  rfl
theorem BV.conv {w : World} {F : Nat → Prop} {v : Value} {l : List UInt8} (h : BV w F v l) : (convert 31 9 v).run Try.prog w = .ok (.string ⟨l.toArray⟩) w := by
  obtain ⟨p, c, rfl, h2, _⟩ := h
  exact conv_byts c h2
theorem BV.nil (w : World) (F : Nat → Prop) : BV w F (.slice none 0 0) [] := ⟨none, 0, rfl, Or.inl rfl, Nat.le_refl _, fun _ => ⟨rfl, rfl⟩, Nat.zero_le _⟩
/-- What is owned lies in blocks from the base on. -/
theorem OwnB.bv {w : World} {base : Nat} {v : Value} {l : List UInt8} (o : OwnB w base v l) (hl : l.length ≤ 140737488351232) : BV w (base ≤ ·) v l := by
  obtain ⟨h1, h2⟩ := o
  rcases h2 with ⟨rfl, h0⟩ | ⟨g, cap, cur, rfl, hg, hh, hle, hm, hs, ht⟩
  · obtain rfl := List.length_eq_zero_iff.1 h0
    exact BV.nil _ _
  · refine ⟨_, cap, rfl, Or.inr ⟨g, 0, rfl, hg, fun i hi => ?_⟩, hle, fun h => (by cases h), hl⟩
    have hu : (bcells l)[i]? = some (.int .u8 l[i].toNat) := by simp [bcells, hi]
    rw [← ht, List.getElem?_take, if_pos (by omega), Array.getElem?_toList] at hu
    simp [World.cell?, hh, hu]
theorem OwnB.form {w : World} {base : Nat} {v : Value} {l : List UInt8} (o : OwnB w base v l) : ∃ p c, v = .slice p l.length c ∧ l.length ≤ c ∧ (p = none → l.length = 0 ∧ c = 0) ∧ l.length ≤ maxLen := by
  obtain ⟨h1, h2⟩ := o
  rcases h2 with ⟨rfl, h0⟩ | ⟨g, cap, cur, rfl, hg, hh, hle, hm, hs, ht⟩
  · exact ⟨none, 0, by rw [h0], by omega, fun _ => ⟨h0, rfl⟩, by omega⟩
  · exact ⟨_, cap, rfl, hle, fun h => (by cases h), by omega⟩
theorem OwnB.parts {w : World} {base : Nat} {v : Value} {l : List UInt8} (o : OwnB w base v l) (hl : l ≠ []) :
    ∃ g cap, v = .slice (some ⟨g, 0, none⟩) l.length cap ∧ base ≤ g ∧ l.length ≤ cap ∧ (∀ i (h : i < l.length), w.cell? ⟨g, i, none⟩ = some (.int .u8 (l[i].toNat : Int)) ∧ w.frozen? ⟨g, i, none⟩ = false) ∧
      (∀ i c, OwnB (w.setCell ⟨g, i, none⟩ (.int .u8 (c.toNat : Int))) base v (l.set i c)) := by
  obtain ⟨h1, h2⟩ := o
  rcases h2 with ⟨_, h0⟩ | ⟨g, cap, cur, rfl, hg, hh, hle, hm, hs, ht⟩
  · exact absurd (List.length_eq_zero_iff.1 h0) hl
  · refine ⟨g, cap, rfl, hg, hle, fun i hi => ⟨?_, ?_⟩, fun i c => ?_⟩
    · have hu : (bcells l)[i]? = some (.int .u8 l[i].toNat) := by simp [bcells, hi]
      rw [← ht, List.getElem?_take, if_pos (by omega), Array.getElem?_toList] at hu
      simp [World.cell?, hh, hu]
    · simp [World.frozen?, hh]
    · have hlen : (l.set i c).length = l.length := List.length_set
      refine ⟨by simp [bcells], Or.inr ⟨g, cap, _, by rw [hlen], hg, heap_setCell_same w g i cur 5 _ hh, by rw [hlen]; exact hle, hm, by simpa using hs, ?_⟩⟩
      rw [hlen, Array.toList_setIfInBounds, List.take_set, ht]
      simp [bcells, List.map_set]

/-! ### Cells, keys, kids -/
def i64b (n : Int) : Prop := -9223372036854775808 ≤ n ∧ n ≤ 9223372036854775807
/-- The four values of a cell. -/
def CR (w : World) (F : Nat → Prop) (c : Cl) (a b x y : Value) : Prop := BV w F a c.key ∧ BV w F b c.val ∧ x = .int .i64 c.over ∧ y = .int .i64 c.size ∧ i64b c.over ∧ i64b c.size
theorem CR.kp {w w' : World} {F : Nat → Prop} {c : Cl} {a b x y : Value} (h : CR w F c a b x y) (K : Kp F w w') : CR w' F c a b x y := ⟨h.1.kp K, h.2.1.kp K, h.2.2⟩
theorem CR.mono {w : World} {F G : Nat → Prop} {c : Cl} {a b x y : Value} (h : CR w F c a b x y) (hG : ∀ k, k < w.heap.size → F k → G k) : CR w G c a b x y := ⟨h.1.mono hG, h.2.1.mono hG, h.2.2⟩
def CAt (w : World) (F : Nat → Prop) (g o : Nat) (c : Cl) : Prop := ∃ a b, w.cell? ⟨g, o, none⟩ = some a ∧ w.cell? ⟨g, o + 1, none⟩ = some b ∧ w.cell? ⟨g, o + 2, none⟩ = some (.int .i64 c.over) ∧ w.cell? ⟨g, o + 3, none⟩ = some (.int .i64 c.size) ∧ CR w F c a b (.int .i64 c.over) (.int .i64 c.size)
theorem CAt.kp {w w' : World} {F : Nat → Prop} {g o : Nat} {c : Cl} (h : CAt w F g o c) (hF : F g) (K : Kp F w w') : CAt w' F g o c := by
  obtain ⟨a, b, h0, h1, h2, h3, hr⟩ := h
  exact ⟨a, b, K.cell hF h0, K.cell hF h1, K.cell hF h2, K.cell hF h3, hr.kp K⟩
theorem CAt.mono {w : World} {F G : Nat → Prop} {g o : Nat} {c : Cl} (h : CAt w F g o c) (hG : ∀ k, k < w.heap.size → F k → G k) : CAt w G g o c := by
  obtain ⟨a, b, h0, h1, h2, h3, hr⟩ := h
  exact ⟨a, b, h0, h1, h2, h3, hr.mono hG⟩
def Cls (w : World) (F : Nat → Prop) (p : Option Addr) (l : List Cl) : Prop := l = [] ∨ ∃ g off, p = some ⟨g, off, none⟩ ∧ F g ∧ ∀ i (h : i < l.length), CAt w F g (off + i * 4) l[i]
theorem Cls.kp {w w' : World} {F : Nat → Prop} {p : Option Addr} {l : List Cl} (h : Cls w F p l) (K : Kp F w w') : Cls w' F p l := by
  rcases h with h | ⟨g, off, hp, hF, hc⟩
  · exact Or.inl h
  · exact Or.inr ⟨g, off, hp, hF, fun i hi => (hc i hi).kp hF K⟩
theorem Cls.mono {w : World} {F G : Nat → Prop} {p : Option Addr} {l : List Cl} (h : Cls w F p l) (hG : ∀ k, k < w.heap.size → F k → G k) : Cls w G p l := by
  rcases h with h | ⟨g, off, hp, hF, hc⟩
  · exact Or.inl h
  · by_cases h0 : l = []
    · exact Or.inl h0
    · obtain ⟨a, _, e, _⟩ := hc 0 (List.length_pos_iff.2 h0)
      exact Or.inr ⟨g, off, hp, hG g (cell_lt e) hF, fun i hi => (hc i hi).mono hG⟩
theorem Cls.at {w : World} {F : Nat → Prop} {p : Option Addr} {l : List Cl} (h : Cls w F p l) {i : Nat} (hi : i < l.length) : ∃ g off, p = some ⟨g, off, none⟩ ∧ F g ∧ CAt w F g (off + i * 4) l[i] := by
  rcases h with h | ⟨g, off, hp, hF, hc⟩
  · subst h; simp at hi
  · exact ⟨g, off, hp, hF, hc i hi⟩
def Kys (w : World) (F : Nat → Prop) (p : Option Addr) (l : List (List UInt8)) : Prop := l = [] ∨ ∃ g off, p = some ⟨g, off, none⟩ ∧ F g ∧ ∀ i (h : i < l.length), ∃ a, w.cell? ⟨g, off + i, none⟩ = some a ∧ BV w F a l[i]
theorem Kys.kp {w w' : World} {F : Nat → Prop} {p : Option Addr} {l : List (List UInt8)} (h : Kys w F p l) (K : Kp F w w') : Kys w' F p l := by
  rcases h with h | ⟨g, off, hp, hF, hc⟩
  · exact Or.inl h
  · refine Or.inr ⟨g, off, hp, hF, fun i hi => ?_⟩
    obtain ⟨a, h0, h1⟩ := hc i hi
    exact ⟨a, K.cell hF h0, h1.kp K⟩
theorem Kys.mono {w : World} {F G : Nat → Prop} {p : Option Addr} {l : List (List UInt8)} (h : Kys w F p l) (hG : ∀ k, k < w.heap.size → F k → G k) : Kys w G p l := by
  rcases h with h | ⟨g, off, hp, hF, hc⟩
  · exact Or.inl h
  · by_cases h0 : l = []
    · exact Or.inl h0
    · obtain ⟨_, e, _⟩ := hc 0 (List.length_pos_iff.2 h0)
      refine Or.inr ⟨g, off, hp, hG g (cell_lt e) hF, fun i hi => ?_⟩
      obtain ⟨a, h0, h1⟩ := hc i hi
      exact ⟨a, h0, h1.mono hG⟩
theorem Kys.at {w : World} {F : Nat → Prop} {p : Option Addr} {l : List (List UInt8)} (h : Kys w F p l) {i : Nat} (hi : i < l.length) : ∃ g off a, p = some ⟨g, off, none⟩ ∧ F g ∧ w.cell? ⟨g, off + i, none⟩ = some a ∧ BV w F a l[i] := by
  rcases h with h | ⟨g, off, hp, hF, hc⟩
  · subst h; simp at hi
  · obtain ⟨a, h0, h1⟩ := hc i hi
    exact ⟨g, off, a, hp, hF, h0, h1⟩
def Kds (w : World) (F : Nat → Prop) (p : Option Addr) (l : List Int) : Prop := l = [] ∨ ∃ g off, p = some ⟨g, off, none⟩ ∧ F g ∧ ∀ i (h : i < l.length), w.cell? ⟨g, off + i, none⟩ = some (.int .i64 l[i])
theorem Kds.kp {w w' : World} {F : Nat → Prop} {p : Option Addr} {l : List Int} (h : Kds w F p l) (K : Kp F w w') : Kds w' F p l := by
  rcases h with h | ⟨g, off, hp, hF, hc⟩
  · exact Or.inl h
  · exact Or.inr ⟨g, off, hp, hF, fun i hi => K.cell hF (hc i hi)⟩
theorem Kds.mono {w : World} {F G : Nat → Prop} {p : Option Addr} {l : List Int} (h : Kds w F p l) (hG : ∀ k, k < w.heap.size → F k → G k) : Kds w G p l := by
  rcases h with h | ⟨g, off, hp, hF, hc⟩
  · exact Or.inl h
  · by_cases h0 : l = []
    · exact Or.inl h0
    · exact Or.inr ⟨g, off, hp, hG g (cell_lt (hc 0 (List.length_pos_iff.2 h0))) hF, hc⟩
theorem Kds.at {w : World} {F : Nat → Prop} {p : Option Addr} {l : List Int} (h : Kds w F p l) {i : Nat} (hi : i < l.length) : ∃ g off, p = some ⟨g, off, none⟩ ∧ F g ∧ w.cell? ⟨g, off + i, none⟩ = some (.int .i64 l[i]) := by
  rcases h with h | ⟨g, off, hp, hF, hc⟩
  · subst h; simp at hi
  · exact ⟨g, off, hp, hF, hc i hi⟩
/-- Slices of them, as values. -/
def CsV (w : World) (F : Nat → Prop) (v : Value) (l : List Cl) : Prop := ∃ p c, v = .slice p l.length c ∧ Cls w F p l ∧ l.length ≤ c ∧ (p = none → l.length = 0 ∧ c = 0) ∧ l.length * 64 ≤ 140737488351232
def KsV (w : World) (F : Nat → Prop) (v : Value) (l : List (List UInt8)) : Prop := ∃ p c, v = .slice p l.length c ∧ Kys w F p l ∧ l.length ≤ c ∧ (p = none → l.length = 0 ∧ c = 0) ∧ l.length * 24 ≤ 140737488351232
def DsV (w : World) (F : Nat → Prop) (v : Value) (l : List Int) : Prop := ∃ p c, v = .slice p l.length c ∧ Kds w F p l ∧ l.length ≤ c ∧ (p = none → l.length = 0 ∧ c = 0) ∧ l.length * 8 ≤ 140737488351232 ∧ ∀ x ∈ l, i64b x
theorem CsV.kp {w w' : World} {F : Nat → Prop} {v : Value} {l : List Cl} (h : CsV w F v l) (K : Kp F w w') : CsV w' F v l := by
  obtain ⟨p, c, h1, h2, r⟩ := h
  exact ⟨p, c, h1, h2.kp K, r⟩
theorem CsV.mono {w : World} {F G : Nat → Prop} {v : Value} {l : List Cl} (h : CsV w F v l) (hG : ∀ k, k < w.heap.size → F k → G k) : CsV w G v l := by
  obtain ⟨p, c, h1, h2, r⟩ := h
  exact ⟨p, c, h1, h2.mono hG, r⟩
theorem KsV.kp {w w' : World} {F : Nat → Prop} {v : Value} {l : List (List UInt8)} (h : KsV w F v l) (K : Kp F w w') : KsV w' F v l := by
  obtain ⟨p, c, h1, h2, r⟩ := h
  exact ⟨p, c, h1, h2.kp K, r⟩
theorem KsV.mono {w : World} {F G : Nat → Prop} {v : Value} {l : List (List UInt8)} (h : KsV w F v l) (hG : ∀ k, k < w.heap.size → F k → G k) : KsV w G v l := by
  obtain ⟨p, c, h1, h2, r⟩ := h
  exact ⟨p, c, h1, h2.mono hG, r⟩
theorem DsV.kp {w w' : World} {F : Nat → Prop} {v : Value} {l : List Int} (h : DsV w F v l) (K : Kp F w w') : DsV w' F v l := by
  obtain ⟨p, c, h1, h2, r⟩ := h
  exact ⟨p, c, h1, h2.kp K, r⟩
theorem DsV.mono {w : World} {F G : Nat → Prop} {v : Value} {l : List Int} (h : DsV w F v l) (hG : ∀ k, k < w.heap.size → F k → G k) : DsV w G v l := by
  obtain ⟨p, c, h1, h2, r⟩ := h
  exact ⟨p, c, h1, h2.mono hG, r⟩
theorem CsV.nil (w : World) (F : Nat → Prop) : CsV w F (.slice none 0 0) [] := ⟨none, 0, rfl, Or.inl rfl, Nat.le_refl _, fun _ => ⟨rfl, rfl⟩, Nat.zero_le _⟩
theorem KsV.nil (w : World) (F : Nat → Prop) : KsV w F (.slice none 0 0) [] := ⟨none, 0, rfl, Or.inl rfl, Nat.le_refl _, fun _ => ⟨rfl, rfl⟩, Nat.zero_le _⟩
theorem DsV.nil (w : World) (F : Nat → Prop) : DsV w F (.slice none 0 0) [] := ⟨none, 0, rfl, Or.inl rfl, Nat.le_refl _, fun _ => ⟨rfl, rfl⟩, Nat.zero_le _, by simp⟩
/-- A node: its three slices. -/
structure NV (w : World) (F : Nat → Prop) (cv kv dv : Value) (n : Nd) : Prop where
  cs : CsV w F cv n.cells
  ks : KsV w F kv n.keys
  ds : DsV w F dv n.kids
theorem NV.kp {w w' : World} {F : Nat → Prop} {cv kv dv : Value} {n : Nd} (h : NV w F cv kv dv n) (K : Kp F w w') : NV w' F cv kv dv n := ⟨h.cs.kp K, h.ks.kp K, h.ds.kp K⟩
theorem NV.mono {w : World} {F G : Nat → Prop} {cv kv dv : Value} {n : Nd} (h : NV w F cv kv dv n) (hG : ∀ k, k < w.heap.size → F k → G k) : NV w G cv kv dv n := ⟨h.cs.mono hG, h.ks.mono hG, h.ds.mono hG⟩
theorem NV.below {w w' : World} {F : Nat → Prop} {cv kv dv : Value} {n : Nd} (h : NV w F cv kv dv n) (B : Below w.heap.size w w') : NV w' F cv kv dv n := h.kp (Kp.of_below B)
theorem NV.none (w : World) (F : Nat → Prop) (b : Bool) : NV w F (.slice none 0 0) (.slice none 0 0) (.slice none 0 0) ⟨b, [], [], []⟩ := ⟨CsV.nil _ _, KsV.nil _ _, DsV.nil _ _⟩

/-! ### Rows that a call owns -/
def CsR (w : World) (F : Nat → Prop) : List Value → List Cl → Prop
  | [], [] => True
  | a :: b :: x :: y :: r, c :: l => CR w F c a b x y ∧ CsR w F r l
  | _, _ => False
def KsR (w : World) (F : Nat → Prop) : List Value → List (List UInt8) → Prop
  | [], [] => True
  | a :: r, k :: l => BV w F a k ∧ KsR w F r l
  | _, _ => False
theorem CsR.kp {w w' : World} {F : Nat → Prop} (K : Kp F w w') : ∀ {xs : List Value} {l : List Cl}, CsR w F xs l → CsR w' F xs l
  | [], [], _ => trivial
  | a :: b :: x :: y :: r, c :: l, h => ⟨h.1.kp K, CsR.kp K h.2⟩
theorem CsR.mono {w : World} {F G : Nat → Prop} (hG : ∀ k, k < w.heap.size → F k → G k) : ∀ {xs : List Value} {l : List Cl}, CsR w F xs l → CsR w G xs l
  | [], [], _ => trivial
  | a :: b :: x :: y :: r, c :: l, h => ⟨h.1.mono hG, CsR.mono hG h.2⟩
theorem CsR.append {w : World} {F : Nat → Prop} : ∀ {xs ys : List Value} {l m : List Cl}, CsR w F xs l → CsR w F ys m → CsR w F (xs ++ ys) (l ++ m)
  | [], ys, [], m, _, h => h
  | a :: b :: x :: y :: r, ys, c :: l, m, h, k => ⟨h.1, CsR.append h.2 k⟩
theorem CsR.len {w : World} {F : Nat → Prop} : ∀ {xs : List Value} {l : List Cl}, CsR w F xs l → xs.length = l.length * 4
  | [], [], _ => rfl
  | a :: b :: x :: y :: r, c :: l, h => by simp only [List.length_cons, CsR.len h.2]; omega
theorem CsR.one {w : World} {F : Nat → Prop} : ∀ {xs : List Value} {l : List Cl}, CsR w F xs l → ∀ u ∈ xs, u.oneCell' = true
  | [], [], _, u, hu => by simp at hu
  | a :: b :: x :: y :: r, c :: l, ⟨⟨h1, h2, h3, h4, _⟩, h⟩, u, hu => by
    simp only [List.mem_cons] at hu
    rcases hu with rfl | rfl | rfl | rfl | hu
    · exact h1.one
    · exact h2.one
    · rw [h3]; rfl
    · rw [h4]; rfl
    · exact CsR.one h u hu
theorem CsR.at {w : World} {F : Nat → Prop} : ∀ {xs : List Value} {l : List Cl}, CsR w F xs l → ∀ (i : Nat) (h : i < l.length), ∃ a b, xs[i * 4]? = some a ∧ xs[i * 4 + 1]? = some b ∧ xs[i * 4 + 2]? = some (.int .i64 l[i].over) ∧ xs[i * 4 + 3]? = some (.int .i64 l[i].size) ∧ CR w F l[i] a b (.int .i64 l[i].over) (.int .i64 l[i].size)
  | [], [], _, i, hi => absurd hi (Nat.not_lt_zero _)
  | a :: b :: x :: y :: r, c :: l, h, 0, _ => by
    obtain ⟨⟨h1, h2, h3, h4, h5⟩, _⟩ := h
    subst h3 h4
    exact ⟨a, b, rfl, rfl, rfl, rfl, h1, h2, rfl, rfl, h5⟩
  | a :: b :: x :: y :: r, c :: l, h, i + 1, hi => by
    obtain ⟨a', b', e0, e1, e2, e3, hr⟩ := CsR.at h.2 i (by simpa using hi)
    refine ⟨a', b', ?_, ?_, ?_, ?_, hr⟩ <;> rw [show (i + 1) * 4 = i * 4 + 1 + 1 + 1 + 1 by omega]
    · simpa using e0
    · simpa using e1
    · simpa using e2
    · simpa using e3
theorem KsR.kp {w w' : World} {F : Nat → Prop} (K : Kp F w w') : ∀ {xs : List Value} {l : List (List UInt8)}, KsR w F xs l → KsR w' F xs l
  | [], [], _ => trivial
  | a :: r, c :: l, h => ⟨h.1.kp K, KsR.kp K h.2⟩
theorem KsR.mono {w : World} {F G : Nat → Prop} (hG : ∀ k, k < w.heap.size → F k → G k) : ∀ {xs : List Value} {l : List (List UInt8)}, KsR w F xs l → KsR w G xs l
  | [], [], _ => trivial
  | a :: r, c :: l, h => ⟨h.1.mono hG, KsR.mono hG h.2⟩
theorem KsR.append {w : World} {F : Nat → Prop} : ∀ {xs ys : List Value} {l m : List (List UInt8)}, KsR w F xs l → KsR w F ys m → KsR w F (xs ++ ys) (l ++ m)
  | [], ys, [], m, _, h => h
  | a :: r, ys, c :: l, m, h, k => ⟨h.1, KsR.append h.2 k⟩
theorem KsR.at {w : World} {F : Nat → Prop} : ∀ {xs : List Value} {l : List (List UInt8)}, KsR w F xs l → ∀ (i : Nat) (h : i < l.length), ∃ a, xs[i]? = some a ∧ BV w F a l[i]
  | [], [], _, i, hi => absurd hi (Nat.not_lt_zero _)
  | a :: r, c :: l, h, 0, _ => ⟨a, rfl, h.1⟩
  | a :: r, c :: l, h, i + 1, hi => by
    obtain ⟨a', e0, hr⟩ := KsR.at h.2 i (by simpa using hi)
    exact ⟨a', by simpa using e0, hr⟩
/-- The blocks that what is owned may name: from the base on, and not the row's own. -/
def own' (base : Nat) (v : Value) : Nat → Prop := fun k => base ≤ k ∧ v.ownBlock ≠ some k
def OwnC (e : TypeId) (w : World) (base : Nat) (v : Value) (l : List Cl) : Prop := ∃ xs, w.ownsRow base e 4 v l.length xs ∧ CsR w (own' base v) xs l
def OwnK (w : World) (base : Nat) (v : Value) (l : List (List UInt8)) : Prop := ∃ xs, w.ownsRow base 31 1 v l.length xs ∧ KsR w (own' base v) xs l
def icells (l : List Int) : List Value := l.map fun x => Value.int .i64 x
def OwnD (w : World) (base : Nat) (v : Value) (l : List Int) : Prop := w.ownsRow base 3 1 v l.length (icells l)
theorem rows_same {w w' : World} {base : Nat} {e : TypeId} {size : Nat} {v : Value} {n : Nat} {xs : List Value} (h : w.ownsRow base e size v n xs) (K : ∀ k, v.ownBlock = some k → w'.heap[k]? = w.heap[k]?) : w'.ownsRow base e size v n xs := by
  obtain ⟨h1, h2⟩ := h
  refine ⟨h1, ?_⟩
  rcases h2 with h2 | ⟨g, cap, cur, hv, hg, hh, r⟩
  · exact Or.inl h2
  · exact Or.inr ⟨g, cap, cur, hv, hg, by rw [K g (by rw [hv]; rfl)]; exact hh, r⟩
theorem OwnC.kp {e : TypeId} {w w' : World} {base : Nat} {v : Value} {l : List Cl} (h : OwnC e w base v l) (K : Kp (base ≤ ·) w w') : OwnC e w' base v l := by
  obtain ⟨xs, h1, h2⟩ := h
  exact ⟨xs, rows_same h1 (fun k hk => K k (h1.lt k hk).2 (h1.lt k hk).1), h2.kp (fun k hk hF => K k hk hF.1)⟩
theorem OwnK.kp {w w' : World} {base : Nat} {v : Value} {l : List (List UInt8)} (h : OwnK w base v l) (K : Kp (base ≤ ·) w w') : OwnK w' base v l := by
  obtain ⟨xs, h1, h2⟩ := h
  exact ⟨xs, rows_same h1 (fun k hk => K k (h1.lt k hk).2 (h1.lt k hk).1), h2.kp (fun k hk hF => K k hk hF.1)⟩
theorem OwnD.kp {w w' : World} {base : Nat} {v : Value} {l : List Int} (h : OwnD w base v l) (K : Kp (base ≤ ·) w w') : OwnD w' base v l :=
  rows_same h (fun k hk => K k (h.lt k hk).2 (h.lt k hk).1)
theorem OwnC.nil (e : TypeId) (w : World) (base : Nat) : OwnC e w base (.slice none 0 0) [] := ⟨[], World.ownsRow_nil _ _ _ _, trivial⟩
theorem OwnK.nil (w : World) (base : Nat) : OwnK w base (.slice none 0 0) [] := ⟨[], World.ownsRow_nil _ _ _ _, trivial⟩
theorem OwnD.nil (w : World) (base : Nat) : OwnD w base (.slice none 0 0) [] := World.ownsRow_nil _ _ _ _
theorem row_form {w : World} {base : Nat} {e : TypeId} {size : Nat} {v : Value} {n : Nat} {xs : List Value} (h : w.ownsRow base e size v n xs) : ∃ p c, v = .slice p n c ∧ n ≤ c ∧ (p = none → n = 0 ∧ c = 0) ∧ n ≤ maxLen := by
  obtain ⟨h1, h2⟩ := h
  rcases h2 with ⟨rfl, h0⟩ | ⟨g, cap, cur, rfl, hg, hh, hle, hm, hs, ht⟩
  · exact ⟨none, 0, by rw [h0], by omega, fun _ => ⟨h0, rfl⟩, by omega⟩
  · exact ⟨_, cap, rfl, hle, fun h => (by cases h), by omega⟩
theorem row_at {w : World} {base : Nat} {e : TypeId} {size : Nat} {p : Option Addr} {n c : Nat} {xs : List Value} (h : w.ownsRow base e size (.slice p n c) n xs) (hn : n ≠ 0) : ∃ g, p = some ⟨g, 0, none⟩ ∧ base ≤ g ∧ ∀ j u, xs[j]? = some u → w.cell? ⟨g, 0 + j, none⟩ = some u := by
  rcases h.2 with ⟨_, h0⟩ | ⟨g, cap, cur, hv, hg, hh, hle, hm, hs, ht⟩
  · exact absurd h0 hn
  · simp only [Value.slice.injEq] at hv
    obtain ⟨rfl, _, rfl⟩ := hv
    refine ⟨g, rfl, hg, fun j u hu => ?_⟩
    have := h.cells (g := g) rfl j u hu
    rw [add_cell] at this
    exact this
theorem OwnC.csv {e : TypeId} {w : World} {base : Nat} {v : Value} {l : List Cl} (h : OwnC e w base v l) (hl : l.length * 64 ≤ 140737488351232) : CsV w (base ≤ ·) v l := by
  obtain ⟨xs, h1, h2⟩ := h
  obtain ⟨p, c, rfl, hc, hp, _⟩ := row_form h1
  refine ⟨p, c, rfl, ?_, hc, hp, hl⟩
  by_cases h0 : l = []
  · exact Or.inl h0
  · obtain ⟨g, rfl, hg, ht⟩ := row_at h1 (fun q => h0 (List.length_eq_zero_iff.1 q))
    refine Or.inr ⟨g, 0, rfl, hg, fun i hi => ?_⟩
    obtain ⟨a, b, e0, e1, e2, e3, hr⟩ := h2.at i hi
    have f0 := ht _ _ e0
    have f1 := ht _ _ e1
    have f2 := ht _ _ e2
    have f3 := ht _ _ e3
    simp only [← Nat.add_assoc] at f1 f2 f3
    exact ⟨a, b, f0, f1, f2, f3, hr.mono (fun k _ hF => hF.1)⟩
theorem OwnK.ksv {w : World} {base : Nat} {v : Value} {l : List (List UInt8)} (h : OwnK w base v l) (hl : l.length * 24 ≤ 140737488351232) : KsV w (base ≤ ·) v l := by
  obtain ⟨xs, h1, h2⟩ := h
  obtain ⟨p, c, rfl, hc, hp, _⟩ := row_form h1
  refine ⟨p, c, rfl, ?_, hc, hp, hl⟩
  by_cases h0 : l = []
  · exact Or.inl h0
  · obtain ⟨g, rfl, hg, ht⟩ := row_at h1 (fun q => h0 (List.length_eq_zero_iff.1 q))
    refine Or.inr ⟨g, 0, rfl, hg, fun i hi => ?_⟩
    obtain ⟨a, e0, hr⟩ := h2.at i hi
    exact ⟨a, ht _ _ e0, hr.mono (fun k _ hF => hF.1)⟩
theorem icells_at {l : List Int} {i : Nat} (h : i < l.length) : (icells l)[i]? = some (.int .i64 l[i]) := by simp [icells, h]
theorem icells_one (l : List Int) : ∀ u ∈ icells l, u.oneCell' = true := by
  intro u hu
  obtain ⟨b, _, rfl⟩ := List.mem_map.1 hu
  rfl
theorem icells_append (l m : List Int) : icells l ++ icells m = icells (l ++ m) := by simp [icells]
theorem OwnD.dsv {w : World} {base : Nat} {v : Value} {l : List Int} (h : OwnD w base v l) (hl : l.length * 8 ≤ 140737488351232) (hb : ∀ x ∈ l, i64b x) : DsV w (base ≤ ·) v l := by
  obtain ⟨p, c, rfl, hc, hp, _⟩ := row_form h
  refine ⟨p, c, rfl, ?_, hc, hp, hl, hb⟩
  by_cases h0 : l = []
  · exact Or.inl h0
  · obtain ⟨g, rfl, hg, ht⟩ := row_at h (fun q => h0 (List.length_eq_zero_iff.1 q))
    exact Or.inr ⟨g, 0, rfl, hg, fun i hi => ht _ _ (icells_at hi)⟩

/-! ### Append, at the operation -/
theorem run_appG {w : World} (t ty e : TypeId) (z : Value) (size bytes : Nat) (ht : Try.prog.underlying t = some (.slice e)) (hi : (Try.prog.info? e).map (fun i => (i.zero, i.size, i.bytes)) = some (some z, size, bytes)) (hzs : z.cells.size = size) (hsz : 0 < size)
    (base : Nat) (v : Value) (n : Nat) (xs : List Value) (hown : w.ownsRow base e size v n xs)
    (p : Option Addr) (m c : Nat) (news : List Value) (hl : news.length = m * size) (hp : p = none → m = 0 ∧ c = 0) (hnews : ∀ ad, p = some ad → ∀ j u, news[j]? = some u → w.cell? (ad.add j) = some u) (h1 : ∀ u ∈ news, u.oneCell' = true)
    (h63 : n + m ≤ maxLen) (hbytes : (n + m) * bytes ≤ 140737488355328) (hbase : base ≤ w.heap.size) :
    ∃ v' w', (Builtin.append_ #[t, t] ty #[v, .slice p m c]).run Try.prog w = .ok v' w' ∧ w'.ownsRow base e size v' (n + m) (xs ++ news) ∧ w.grownBy w' v.ownBlock ∧ (v'.ownBlock = v.ownBlock ∨ v'.ownBlock = some w.heap.size) := by
  obtain ⟨i, hi0, hz, h2, h3⟩ := info_parts hi
  cases p with
  | none =>
    obtain ⟨rfl, rfl⟩ := hp rfl
    have hn : news = [] := List.length_eq_zero_iff.1 (by simpa using hl)
    subst hn
    have hrun := run_append_owned_none (P := Try.prog) (w := w) base t ty e i size ht hi0 v n xs hown
    exact ⟨v, w, hrun, by simpa using hown, ⟨rfl, rfl, rfl, Nat.le_refl _, fun _ _ _ => rfl⟩, Or.inl rfl⟩
  | some ad =>
    obtain ⟨v', w', hr, a1, a2, _, a3⟩ := run_append_own_at (P := Try.prog) w base t ty e i z size bytes ht hi0 hz h2 h3 hzs hsz v n xs hown ad m c news hl (hnews ad rfl) h1 h63 hbytes hbase
    exact ⟨v', w', hr, a1, a2, a3⟩
theorem wp_run {o : Oper} {a : Act} {w : World} {K : Act → World → Prop} {Q : Exit → Act → World → Prop} {s x : Operand} {t : TypeId} {v vx v' : Value} {w' : World}
    (ho : o.op = .call { callee := .builtin .append, args := #[s, x], argTypes := #[t, t] }) (hs : a.eval s = v) (hx : a.eval x = vx) (hr : (Builtin.append_ #[t, t] o.type #[v, vx]).run Try.prog w = .ok v' w') (h : K (a.put o.dst v') w') : o.wp Try.prog a w K Q := by
  unfold Oper.wp execOp
  simp only [ho, resolve, invoke, builtin, Sem.run_bind, Sem.run_pure, Result.andThen_ok, List.map_toArray, List.map_cons, List.map_nil, hs, hx, hr]
  exact h
theorem st_run {ops : Array Oper} {o : Oper} {a : Act} {w : World} {K : Act → World → Prop} {Q : Exit → Act → World → Prop} {E : Prop} {s x : Operand} {t : TypeId} {v vx v' : Value} {w' : World} (hgd : o.guard = none)
    (ho : o.op = .call { callee := .builtin .append, args := #[s, x], argTypes := #[t, t] }) (hs : a.eval s = v) (hx : a.eval x = vx) (hr : (Builtin.append_ #[t, t] o.type #[v, vx]).run Try.prog w = .ok v' w') (h : K (a.put o.dst v') w') :
    if Region.wanted o (yielded ops a.tmps) = true then Oper.wp Try.prog o a w K Q else E := by
  have hw : Region.wanted o (yielded ops a.tmps) = true := by simp [Region.wanted, hgd]
  rw [if_pos hw]
  exact wp_run ho hs hx hr h
theorem wl_run {ops : Array Oper} {rest : List Oper} {o : Oper} {a : Act} {w : World} {Q : Exit → Act → World → Prop} {s x : Operand} {t : TypeId} {v vx v' : Value} {w' : World} (hgd : o.guard = none)
    (ho : o.op = .call { callee := .builtin .append, args := #[s, x], argTypes := #[t, t] }) (hs : a.eval s = v) (hx : a.eval x = vx) (hr : (Builtin.append_ #[t, t] o.type #[v, vx]).run Try.prog w = .ok v' w') (h : wpList Try.prog ops Q rest (a.put o.dst v') w') : wpList Try.prog ops Q (o :: rest) a w :=
  wpList_plain hgd fun K hK => wp_run ho hs hx hr (hK _ _ h)
/-- Bytes onto owned bytes. -/
theorem run_appY {w : World} (ty : TypeId) {F : Nat → Prop} {base : Nat} {v vx : Value} {l m : List UInt8} (O : OwnB w base v l) (X : BV w F vx m) (hl : l.length + m.length ≤ 140737488351232) (hb : base ≤ w.heap.size) :
    ∃ v' w', (Builtin.append_ #[31, 31] ty #[v, vx]).run Try.prog w = .ok v' w' ∧ OwnB w' base v' (l ++ m) ∧ (∀ wx, Past wx v v' w w') ∧ Below base w w' := by
  obtain ⟨p, c, rfl, hx, _, hp, _⟩ := X
  obtain ⟨v', w', hr, h1, h2, h3⟩ := run_appG 31 ty 5 (.int .u8 0) 1 1 Try.underlying31 infoByte rfl (by decide) base v _ _ O p m.length c (bcells m) (by simp [bcells]) hp hx.cells (bcells_one m) (by unfold maxLen; omega) (by omega) hb
  refine ⟨v', w', hr, ?_, fun wx => ?_, (Below.refl base w).grown h2 hb (fun k hk => (O.lt k hk).1)⟩
  · unfold OwnB
    rw [List.length_append, ← bcells_append]
    exact h1
  · refine ⟨h2.os, h2.tape, h2.output, h2.size, fun k hk _ ho => h2.block k hk (fun e => ho e.symm), fun k hk ho e => ?_⟩
    rcases h3 with h | h
    · exact ho (h.symm.trans e)
    · rw [h] at e
      simp only [Option.some.injEq] at e
      omega
theorem infoKey : (Try.prog.info? 31).map (fun i => (i.zero, i.size, i.bytes)) = some (some (.slice none 0 0), 1, 24) := by kernel_rfl
theorem infoInt : (Try.prog.info? 3).map (fun i => (i.zero, i.size, i.bytes)) = some (some (.int .i64 0), 1, 8) := by kernel_rfl
theorem infoCl : (Try.prog.info? 58).map (fun i => (i.zero, i.size, i.bytes)) = some (some (.agg #[.slice none 0 0, .slice none 0 0, .int .i64 0, .int .i64 0]), 4, 64) := by kernel_rfl
theorem infoRc : (Try.prog.info? 59).map (fun i => (i.zero, i.size, i.bytes)) = some (some (.agg #[.slice none 0 0, .slice none 0 0, .int .i64 0, .int .i64 0]), 4, 64) := by kernel_rfl
theorem own'_grown {base : Nat} {v v' : Value} {w : World} (h : v'.ownBlock = v.ownBlock ∨ v'.ownBlock = some w.heap.size) : ∀ k, k < w.heap.size → own' base v k → own' base v' k := by
  rintro k hk ⟨h1, h2⟩
  refine ⟨h1, fun e => ?_⟩
  rcases h with h | h
  · exact h2 (h.symm.trans e)
  · rw [h] at e
    simp only [Option.some.injEq] at e
    omega
theorem past_of {w w' : World} {v v' : Value} (h2 : w.grownBy w' v.ownBlock) (h3 : v'.ownBlock = v.ownBlock ∨ v'.ownBlock = some w.heap.size) (wx : Nat) : Past wx v v' w w' := by
  refine ⟨h2.os, h2.tape, h2.output, h2.size, fun k hk _ ho => h2.block k hk (fun e => ho e.symm), fun k hk ho e => ?_⟩
  rcases h3 with h | h
  · exact ho (h.symm.trans e)
  · rw [h] at e
    simp only [Option.some.injEq] at e
    omega
theorem own_both {w w' : World} {base : Nat} {v v' : Value} {xs : List Value} {l : List Cl} (a2 : w.grownBy w' v.ownBlock) (a3 : v'.ownBlock = v.ownBlock ∨ v'.ownBlock = some w.heap.size) (h : ∀ F : Nat → Prop, (∀ k, k < w.heap.size → own' base v k → F k) → Kp F w w' → CsR w' F xs l) : CsR w' (own' base v') xs l :=
  (h (fun k => own' base v k ∧ own' base v' k) (fun k hk hF => ⟨hF, own'_grown a3 k hk hF⟩) (Kp.of_grown a2 (fun k hF => hF.1.2))).mono (fun k _ hF => hF.2)
theorem ownk_both {w w' : World} {base : Nat} {v v' : Value} {xs : List Value} {l : List (List UInt8)} (a2 : w.grownBy w' v.ownBlock) (a3 : v'.ownBlock = v.ownBlock ∨ v'.ownBlock = some w.heap.size) (h : ∀ F : Nat → Prop, (∀ k, k < w.heap.size → own' base v k → F k) → Kp F w w' → KsR w' F xs l) : KsR w' (own' base v') xs l :=
  (h (fun k => own' base v k ∧ own' base v' k) (fun k hk hF => ⟨hF, own'_grown a3 k hk hF⟩) (Kp.of_grown a2 (fun k hF => hF.1.2))).mono (fun k _ hF => hF.2)
theorem one_cell {w : World} {g : Nat} {x : Value} (X : w.cell? ⟨g, 0, none⟩ = some x) : ∀ ad, some (⟨g, 0, none⟩ : Addr) = some ad → ∀ j u, [x][j]? = some u → w.cell? (ad.add j) = some u := by
  intro ad e j u hu
  obtain rfl := Option.some.inj e
  match j, hu with
  | 0, hu =>
    simp only [List.getElem?_cons_zero, Option.some.injEq] at hu
    subst hu
    rw [add_cell]
    exact X
theorem Kds.cells {w : World} {F : Nat → Prop} {p : Option Addr} {l : List Int} (h : Kds w F p l) : ∀ ad, p = some ad → ∀ j u, (icells l)[j]? = some u → w.cell? (ad.add j) = some u := by
  intro ad hp j u hu
  rcases h with h | ⟨b, off, hp', _, hc⟩
  · subst h; simp [icells] at hu
  · rw [hp'] at hp
    obtain rfl := Option.some.inj hp
    rw [add_cell]
    have hj : j < l.length := by
      have := (List.getElem?_eq_some_iff.1 hu).1
      simpa [icells] using this
    rw [icells_at hj] at hu
    rw [← Option.some.inj hu]
    exact hc j hj
/-- Cells onto owned ones (both kinds of cells). -/
theorem run_appCs {w : World} (t ty e : TypeId) (ht : Try.prog.underlying t = some (.slice e)) (hi : (Try.prog.info? e).map (fun i => (i.zero, i.size, i.bytes)) = some (some (.agg #[.slice none 0 0, .slice none 0 0, .int .i64 0, .int .i64 0]), 4, 64)) {base : Nat} {v : Value} {l m : List Cl} (O : OwnC e w base v l)
    (p : Option Addr) (c : Nat) (news : List Value) (hp : p = none → m.length = 0 ∧ c = 0) (R : CsR w (own' base v) news m) (hnews : ∀ ad, p = some ad → ∀ j u, news[j]? = some u → w.cell? (ad.add j) = some u)
    (hl : (l.length + m.length) * 64 ≤ 140737488351232) (hb : base ≤ w.heap.size) :
    ∃ v' w', (Builtin.append_ #[t, t] ty #[v, .slice p m.length c]).run Try.prog w = .ok v' w' ∧ OwnC e w' base v' (l ++ m) ∧ (∀ wx, Past wx v v' w w') ∧ Below base w w' := by
  obtain ⟨xs, h1, h2⟩ := O
  obtain ⟨v', w', hr, a1, a2, a3⟩ := run_appG t ty e _ 4 64 ht hi rfl (by decide) base v _ _ h1 p m.length c news R.len hp hnews R.one (by unfold maxLen; omega) (by omega) hb
  refine ⟨v', w', hr, ⟨xs ++ news, by rw [List.length_append]; exact a1, ?_⟩, past_of a2 a3, (Below.refl base w).grown a2 hb (fun k hk => (h1.lt k hk).1)⟩
  exact own_both a2 a3 (fun F K1 K2 => ((h2.mono K1).append (R.mono K1)).kp K2)
/-- A key onto owned ones. -/
theorem run_appK {w : World} (ty : TypeId) {base : Nat} {v : Value} {l : List (List UInt8)} {k : List UInt8} {x : Value} (O : OwnK w base v l) (g c : Nat) (X : w.cell? ⟨g, 0, none⟩ = some x) (R : BV w (own' base v) x k)
    (hl : (l.length + 1) * 24 ≤ 140737488351232) (hb : base ≤ w.heap.size) :
    ∃ v' w', (Builtin.append_ #[23, 23] ty #[v, .slice (some ⟨g, 0, none⟩) 1 c]).run Try.prog w = .ok v' w' ∧ OwnK w' base v' (l ++ [k]) ∧ (∀ wx, Past wx v v' w w') ∧ Below base w w' := by
  obtain ⟨xs, h1, h2⟩ := O
  obtain ⟨v', w', hr, a1, a2, a3⟩ := run_appG 23 ty 31 _ 1 24 Try.underlying23 infoKey rfl (by decide) base v _ _ h1 (some ⟨g, 0, none⟩) 1 c [x] rfl (fun h => by cases h) (one_cell X) (by intro u hu; have hu' : u = x := (by simpa using hu); rw [hu']; exact R.one) (by unfold maxLen; omega) (by omega) hb
  refine ⟨v', w', hr, ⟨xs ++ [x], by rw [List.length_append]; exact a1, ?_⟩, past_of a2 a3, (Below.refl base w).grown a2 hb (fun k hk => (h1.lt k hk).1)⟩
  exact ownk_both a2 a3 (fun F K1 K2 => ((h2.mono K1).append (show KsR w F [x] [k] from ⟨R.mono K1, trivial⟩)).kp K2)
/-- A number onto owned ones; numbers onto owned ones. -/
theorem run_appD {w : World} (ty : TypeId) {base : Nat} {v : Value} {l : List Int} {n : Int} (O : OwnD w base v l) (g c : Nat) (X : w.cell? ⟨g, 0, none⟩ = some (.int .i64 n))
    (hl : (l.length + 1) * 8 ≤ 140737488351232) (hb : base ≤ w.heap.size) :
    ∃ v' w', (Builtin.append_ #[24, 24] ty #[v, .slice (some ⟨g, 0, none⟩) 1 c]).run Try.prog w = .ok v' w' ∧ OwnD w' base v' (l ++ [n]) ∧ (∀ wx, Past wx v v' w w') ∧ Below base w w' := by
  obtain ⟨v', w', hr, a1, a2, a3⟩ := run_appG 24 ty 3 _ 1 8 Try.underlying24 infoInt rfl (by decide) base v _ _ O (some ⟨g, 0, none⟩) 1 c (icells [n]) rfl (fun h => by cases h) (one_cell X) (icells_one _) (by unfold maxLen; omega) (by omega) hb
  refine ⟨v', w', hr, ?_, past_of a2 a3, (Below.refl base w).grown a2 hb (fun k hk => (O.lt k hk).1)⟩
  unfold OwnD
  rw [List.length_append, ← icells_append]
  exact a1
theorem run_appDs {w : World} (ty : TypeId) {F : Nat → Prop} {base : Nat} {v vx : Value} {l m : List Int} (O : OwnD w base v l) (X : DsV w F vx m)
    (hl : (l.length + m.length) * 8 ≤ 140737488351232) (hb : base ≤ w.heap.size) :
    ∃ v' w', (Builtin.append_ #[24, 24] ty #[v, vx]).run Try.prog w = .ok v' w' ∧ OwnD w' base v' (l ++ m) ∧ (∀ wx, Past wx v v' w w') ∧ Below base w w' := by
  obtain ⟨p, c, rfl, hx, _, hp, _⟩ := X
  obtain ⟨v', w', hr, a1, a2, a3⟩ := run_appG 24 ty 3 _ 1 8 Try.underlying24 infoInt rfl (by decide) base v _ _ O p m.length c (icells m) (by simp [icells]) hp hx.cells (icells_one _) (by unfold maxLen; omega) (by omega) hb
  refine ⟨v', w', hr, ?_, past_of a2 a3, (Below.refl base w).grown a2 hb (fun k hk => (O.lt k hk).1)⟩
  unfold OwnD
  rw [List.length_append, ← icells_append]
  exact a1
end Go.Proofs.Ytilmlegkkgiahaa
