/- What the closures of a reader of package node do: take, number, bytes, end. Condition: the bytes lie within the reach. -/
import Derived.Test.YtilmlegkkgiahaaNdSmall
import Derived.Laws.BitsAllLaws
import Derived.Laws.NewBlocks
namespace Go.Proofs.Ytilmlegkkgiahaa
open Go.RowKit Go.Lib
set_option linter.unusedVariables false
set_option maxRecDepth 20000

/-- What is thrown: an error's number. -/
def thr (n : Int) : List PanicEntry := [{ v := .iface 32 (.int .i64 n), recovered := false }]
/-- A reader whose rest lies at one block and whose closure take at another one. -/
structure Rk (w : World) (F : Nat → Prop) (rb tb : Nat) (l : List UInt8) : Prop where
  bv : ∃ v, w.cell? ⟨rb, 0, none⟩ = some v ∧ BV w F v l
  f0 : w.frozen? ⟨rb, 0, none⟩ = false
  t0 : w.cell? ⟨tb, 0, none⟩ = some (.func (.func 63) #[] #[.pointer (some ⟨rb, 0, none⟩)])
  ne : tb ≠ rb
  nF : ¬ F rb
theorem Rk.lt {w : World} {F : Nat → Prop} {rb tb : Nat} {l : List UInt8} (h : Rk w F rb tb l) : rb < w.heap.size := by
  obtain ⟨v, h0, _⟩ := h.bv
  exact cell_lt h0
theorem Rk.tlt {w : World} {F : Nat → Prop} {rb tb : Nat} {l : List UInt8} (h : Rk w F rb tb l) : tb < w.heap.size := cell_lt h.t0
theorem Rk.below {w w' : World} {F : Nat → Prop} {rb tb : Nat} {l : List UInt8} (h : Rk w F rb tb l) (B : Below w.heap.size w w') : Rk w' F rb tb l := by
  have h1 := h.lt
  obtain ⟨⟨v, c0, hb⟩, f0, t0, ne, nF⟩ := h
  exact ⟨⟨v, below_cell B c0, hb.below B⟩, (B.frozen (p := ⟨rb, 0, none⟩) h1).trans f0, below_cell B t0, ne, nF⟩
theorem Rk.set {w : World} {F : Nat → Prop} {rb tb : Nat} {l m : List UInt8} {v : Value} (h : Rk w F rb tb l) (hv : BV w F v m) : Rk (w.setCell ⟨rb, 0, none⟩ v) F rb tb m := by
  obtain ⟨⟨v0, c0, _⟩, f0, t0, ne, nF⟩ := h
  refine ⟨⟨v, ?_, hv.kp (Kp.of_set nF)⟩, ?_, ?_, ne, nF⟩
  · simp [go_sem, c0]
  · simp [go_sem, f0]
  · exact (World.cell?_of_block (w := w) (a := ⟨tb, 0, none⟩) (Below.heap_setCell _ _ _ _ ne)).trans t0
/-- What a reading ends with: what was taken and what is left, or what is thrown. -/
def rdEnd {α : Type} (P : World → Value → α → Prop) (F : Nat → Prop) (rb tb : Nat) (x : Option (α × List UInt8)) (w : World) (e : Ending) (w' : World) : Prop :=
  Chg (· = rb) w w' ∧ match x with
    | some y => ∃ v, e = .returned v ∧ P w' v y.1 ∧ Rk w' F rb tb y.2
    | none => e = .panicked (thr 10)
theorem BV.cutL {w : World} {F : Nat → Prop} {p : Option Addr} {l : List UInt8} {c n : Nat} (h : BV w F (.slice p l.length c) l) (hn : n ≤ l.length) : BV w F (.slice p n c) (l.take n) := by
  obtain ⟨p', c', e, hb, hc, hp, hl⟩ := h
  simp only [Value.slice.injEq] at e
  obtain ⟨rfl, _, rfl⟩ := e
  have hlen : (l.take n).length = n := by rw [List.length_take]; omega
  exact ⟨p, c, by rw [hlen], hb.take n, by rw [hlen]; omega, fun h0 => by obtain ⟨h1, h2⟩ := hp h0; exact ⟨by rw [hlen]; omega, h2⟩, by rw [hlen]; omega⟩
theorem BV.shape {w : World} {F : Nat → Prop} {v : Value} {l : List UInt8} (h : BV w F v l) : ∃ p c, v = .slice p l.length c := by
  obtain ⟨p, c, e, _⟩ := h
  exact ⟨p, c, e⟩
theorem BV.at {w : World} {F : Nat → Prop} {p : Option Addr} {m c : Nat} {l : List UInt8} (h : BV w F (.slice p m c) l) {i : Nat} (hi : i < l.length) : ∃ b off, p = some ⟨b, off, none⟩ ∧ F b ∧ w.cell? ⟨b, off + i, none⟩ = some (.int .u8 (l[i].toNat : Int)) := by
  obtain ⟨p', c', e, hb, _⟩ := h
  simp only [Value.slice.injEq] at e
  obtain ⟨rfl, _, rfl⟩ := e
  exact hb.at hi
theorem BV.cutR {w : World} {F : Nat → Prop} {p : Option Addr} {l : List UInt8} {c n : Nat} (h : BV w F (.slice p l.length c) l) (hn : n ≤ l.length) (hc' : ¬ c = n) : BV w F (.slice (p.map (fun x => x.add n)) (l.length - n) (c - n)) (l.drop n) := by
  obtain ⟨p', c', e, hb, hc, hp, hl⟩ := h
  simp only [Value.slice.injEq] at e
  obtain ⟨rfl, _, rfl⟩ := e
  refine ⟨_, c - n, by rw [List.length_drop], ?_, by rw [List.length_drop]; omega, ?_, by rw [List.length_drop]; omega⟩
  · cases p with
    | none => exact Or.inl (List.length_eq_zero_iff.1 (by have := (hp rfl).1; rw [List.length_drop]; omega))
    | some a =>
      by_cases h0 : l = []
      · subst h0; exact Or.inl (by simp)
      · rcases hb with hb | ⟨b, off, rfl2, hF, hcl⟩
        · exact absurd hb h0
        · cases rfl2
          have := Byts.drop (w := w) (F := F) (b := b) (off := off) (l := l) (Or.inr ⟨b, off, rfl, hF, hcl⟩) n
          rw [Option.map_some, add_cell]
          exact this
  · intro h0
    cases p with
    | none => exact absurd (by have := hp rfl; omega) hc'
    | some a => simp at h0
theorem BV.cutE {w : World} {F : Nat → Prop} {p : Option Addr} {l : List UInt8} {c n : Nat} (h : BV w F (.slice p l.length c) l) (hn : n ≤ l.length) (hc' : c = n) : BV w F (.slice p (l.length - n) 0) (l.drop n) := by
  obtain ⟨p', c', e, hb, hc, hp, hl⟩ := h
  simp only [Value.slice.injEq] at e
  obtain ⟨rfl, _, rfl⟩ := e
  have h0 : l.drop n = [] := List.length_eq_zero_iff.1 (by rw [List.length_drop]; omega)
  rw [h0, show l.length - n = 0 by omega]
  exact ⟨p, 0, rfl, Or.inl rfl, Nat.le_refl _, fun _ => ⟨rfl, rfl⟩, Nat.zero_le _⟩
theorem take_end {w : World} {F : Nat → Prop} {rb tb n L c : Nat} {l : List UInt8} {p : Option Addr} {v2 : Value} (h : Rk w F rb tb l) (hT : tk n l = some (l.take n, l.drop n)) (hv : BV w F (.slice p L c) l) (hL : l.length = L) (hn : n ≤ l.length) (hq : BV w F v2 (l.drop n)) : rdEnd (fun w' v a => BV w' F v a) F rb tb (tk n l) w (.returned (.slice p n c)) (w.setCell ⟨rb, 0, none⟩ v2) := by
  subst hL
  rw [hT]
  exact ⟨Chg.setCell (F := (· = rb)) (p := ⟨rb, 0, none⟩) (Chg.refl _ _) (Or.inl rfl) _, _, rfl, (hv.cutL hn).kp (Kp.of_set h.nF), h.set hq⟩
set_option maxHeartbeats 1000000 in
theorem take_any {F : Nat → Prop} (rb tb n : Nat) (l : List UInt8) (w : World) (hR : Rk w F rb tb l) (hn : n ≤ 140737488351232) :
    Calls Try.prog 63 #[.int .i64 (n : Int), .pointer (some ⟨rb, 0, none⟩)] w (rdEnd (fun w' v a => BV w' F v a) F rb tb (tk n l) w) := by
  have HR := hid hR
  obtain ⟨⟨v, c0, hv⟩, f0, _, _, nF⟩ := hR
  have HV := hid hv
  have HF := hid nF
  obtain ⟨p, c, rfl, hb, hc, hp, hl⟩ := hv
  clear hb nF
  by_cases h : n ≤ l.length
  · have HT : Hid (tk n l = some (l.take n, l.drop n)) := if_pos h
    generalize hL : l.length = L at *
    have HL := hid hL
    clear hL
    go_enter Try.func63, Try.ntmps63
    go_wp2
    all_goals go_ret
    · rename_i h
      exact take_end HR.out HT.out (by rw [← h]; exact HV.out) HL.out (by rw [HL.out]; assumption) (by rw [← HL.out]; exact BV.cutE (c := c) (by rw [HL.out]; exact HV.out) (by rw [HL.out]; assumption) h)
    · rename_i h
      exact take_end HR.out HT.out HV.out HL.out (by rw [HL.out]; assumption) (by rw [← HL.out]; exact BV.cutR (by rw [HL.out]; exact HV.out) (by rw [HL.out]; assumption) h)
  · have HT : Hid (tk n l = none) := if_neg h
    go_enter Try.func63, Try.ntmps63
    go_wp2
    refine ⟨rfl, ?_⟩
    unfold rdEnd
    rw [HT.out]
    exact ⟨Chg.refl _ _, rfl⟩
/-- Bytes as a number, the lowest first. -/
def leN : List UInt8 → Nat
  | [] => 0
  | x :: r => x.toNat + 256 * leN r
theorem i64_or_small (a b : Nat) (ha : a < 65536) (hb : b < 65536) : bits .or .i64 (a : Int) (b : Int) = ((a ||| b : Nat) : Int) := by
  have hx : a ||| b < 2 ^ 16 := Nat.or_lt_two_pow (by omega) (by omega)
  show IntKind.i64.wrap ((BitVec.ofInt 64 (a : Int) ||| BitVec.ofInt 64 (b : Int)).toNat : Int) = _
  rw [BitVec.toNat_or, ofInt_u64 a (by omega), ofInt_u64 b (by omega), IntKind.wrap_i64]
  omega
theorem or_lo (y : Nat) (h : y < 256) : bits .or .i64 0 (y : Int) = (y : Int) := by
  have := i64_or_small 0 y (by omega) (by omega)
  simpa using this
theorem or_hi (x y : Nat) (hx : x < 256) (hy : y < 256) : bits .or .i64 (x : Int) ((y : Int) * 256) = ((x + 256 * y : Nat) : Int) := by
  have h := i64_or_small x (y * 256) (by omega) (by omega)
  have e : ((y * 256 : Nat) : Int) = (y : Int) * 256 := by omega
  rw [← e, h]
  congr 1
  rw [Nat.or_comm]
  have e2 := Nat.two_pow_add_eq_or_of_lt (i := 8) (b := x) (by omega) y
  rw [Nat.mul_comm y 256, show (256 : Nat) = 2 ^ 8 from rfl, ← e2, Nat.add_comm]
def pN (n : Nat) (l : List UInt8) : Option (Nat × List UInt8) := (tk n l).map fun y => (leN y.1, y.2)
theorem pN_one (l : List UInt8) : pN 1 l = p1 l := by
  cases l with
  | nil => rfl
  | cons x r => simp [pN, tk, p1, leN]
theorem pN_two (l : List UInt8) : pN 2 l = p2 l := by
  match l with
  | [] => rfl
  | [x] => rfl
  | x :: y :: r => simp [pN, tk, p2, leN]
set_option maxHeartbeats 2000000 in
theorem num_any {F : Nat → Prop} (rb tb n : Nat) (l : List UInt8) (w : World) (hR : Rk w F rb tb l) (hn : n ≤ 2) :
    Calls Try.prog 64 #[.int .i64 (n : Int), .pointer (some ⟨tb, 0, none⟩)] w (rdEnd (fun _ v a => v = .int .i64 ((a : Nat) : Int)) F rb tb (pN n l) w) := by
  have T := hid (take_any rb tb n l w hR (by omega))
  have t0 := hR.t0
  have HR := hid hR
  clear hR
  unfold pN
  cases hx : tk n l with
  | none =>
    rw [hx] at T
    unfold rdEnd at T
    simp only [] at T
    go_enter Try.func64, Try.ntmps64
    go_wp2_with (first
      | (go_at_call 63; with_reducible refine T.out.mono ?_; rintro e w2 ⟨C2, rfl⟩)
      | fail)
    exact ⟨rfl, C2, rfl⟩
  | some x =>
    obtain ⟨a, r⟩ := x
    have HA : Hid (a.length = n) := by
      have := hx
      unfold tk at this
      split at this
      · cases this; show _ = _; rw [List.length_take]; omega
      · cases this
    rw [hx] at T
    unfold rdEnd at T
    simp only [] at T
    clear hx
    obtain rfl := HA.out
    clear HA
    go_enter Try.func64, Try.ntmps64
    go_wp2_with (go_at_call 63; with_reducible refine T.out.mono ?_; rintro e w2 ⟨C2, va, rfl, bv2, R2⟩; have HC2 := hid C2; have HR2 := hid R2; have HB2 := hid bv2; obtain ⟨pa, ca, hv2⟩ := bv2.shape; subst hv2; clear C2 R2 bv2)
    clear T HR t0
    go_wp2
    go_loopw [4, 11] (fun z i wr => ∃ k : Nat, i = .int .i64 (k : Int) ∧ k ≤ a.length ∧ z = .int .i64 ((leN (a.take k) : Nat) : Int) ∧ wr = w2) (fun _ i _ => a.length - (RowKit.intOf i).toNat)
    case atStart => exact ⟨0, rfl, Nat.zero_le _, rfl, rfl⟩
    case round =>
      obtain ⟨k, rfl, hk, rfl, rfl⟩ := hrel
      by_cases hx : k < a.length
      · obtain ⟨b, off, rfl, _, c0⟩ := HB2.out.at (i := k) hx
        have hy := UInt8.toNat_lt a[k]
        have HStep : Hid (∀ z, z = a[k].toNat → (k = 0 → leN (a.take (k + 1)) = z) ∧ (k = 1 → leN (a.take (k + 1)) = leN (a.take k) + 256 * z ∧ leN (a.take k) < 256)) := by
          rintro z rfl
          refine ⟨fun h0 => ?_, fun h1 => ?_⟩
          · subst h0
            match a, hx with
            | x :: r, _ => simp [leN]
          · subst h1
            match a, hx with
            | x :: y :: r, _ => have := UInt8.toNat_lt x; simp [leN]; omega
        generalize a[k].toNat = y at *
        obtain ⟨s1, s2⟩ := HStep.out y rfl
        clear HStep
        obtain rfl | rfl : k = 0 ∨ k = 1 := by omega
        · have hz : leN (a.take 0) = 0 := by simp [leN]
          rw [hz, show ((0 : Nat) : Int) = 0 from rfl]
          rw [Nat.add_zero] at c0
          have H1 := hid (s1 rfl)
          clear s1 s2
          have ho := or_lo y hy
          go_wp2
          go_roundw
          case rel => exact ⟨1, by go_num, by omega, by rw [H1.out], by first | rfl | trivial⟩
          case measure => simp [RowKit.intOf]; omega
        · obtain ⟨h1, h2⟩ := s2 rfl
          have H1 := hid h1
          clear s1 s2 h1
          generalize leN (a.take 1) = x at *
          have ho := or_hi x y h2 hy
          go_wp2
          go_roundw
          case rel => exact ⟨2, by go_num, by omega, by rw [H1.out]; simp, by first | rfl | trivial⟩
          case measure => simp [RowKit.intOf]; omega
      · obtain rfl : k = a.length := by omega
        have HE : Hid (a.take a.length = a) := List.take_of_length_le (Nat.le_refl _)
        go_wp2
        go_ret
        exact ⟨HC2.out, _, rfl, by rw [HE.out]; rfl, HR2.out⟩
end Go.Proofs.Ytilmlegkkgiahaa
