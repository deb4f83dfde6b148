/- DiskBytes: the disk beside the three rows of pages. Condition: fewer than a million writes are pending. -/
import Derived.Test.YtfgcjcffplglhaaDkMay
namespace Go.Proofs.Ytfgcjcffplglhaa
open Go.RowKit
set_option linter.unusedVariables false
set_option maxRecDepth 20000

theorem may_fresh (n : Nat) : mayOf (Dk.fresh 3) n = [zeros 512] := rfl
theorem may_fresh_set (k : Nat) : (fun j => if j = k then [zeros 512] else mayOf (Dk.fresh 3) j) = mayOf (Dk.fresh 3) := by
  funext j
  by_cases h : j = k
  · rw [if_pos h, may_fresh]
  · rw [if_neg h]
theorem may_start (w : World) (Z : Nat → Prop) (M : Nat → List (List UInt8)) (hz : Z w.heap.size) : MayAt (w.alloc (.cells #[.slice none 0 0, .slice none 0 0, .slice none 0 0] 54)) Z w.heap.size [.slice none 0 0, .slice none 0 0, .slice none 0 0] 0 M :=
  ⟨Blk.new w [.slice none 0 0, .slice none 0 0, .slice none 0 0] _, rfl, hz, fun n hn => absurd hn (Nat.not_lt_zero n), fun i _ _ _ hi => absurd hi (Nat.not_lt_zero i)⟩
structure BW (s : Nat) (w0 w : World) (db : Nat) (d : Dk) (mb : Nat) (vs : List Value) (c : Nat) (M : Nat → List (List UInt8)) (Z : Nat → Prop) : Prop where
  dw : DW s w0 w db d Z
  may : MayAt w Z mb vs c M
  ge : ∀ k, Z k → s ≤ k
variable {s : Nat} {w0 w w' : World} {db : Nat} {d : Dk} {mb : Nat} {vs : List Value} {c : Nat} {M : Nat → List (List UInt8)} {Z : Nat → Prop}
theorem BW.add (h : BW s w0 w db d mb vs c M Z) (B : Below w.heap.size w w') : BW s w0 w' db d mb vs c M (fun k => Z k ∨ (w.heap.size ≤ k ∧ k < w'.heap.size)) :=
  ⟨h.dw.add B, (h.may.kept (fun k hz => B.block k (h.dw.lt k hz))).mono (fun k hz => Or.inl hz), fun k hk => by
    rcases hk with hk | hk
    · exact h.ge k hk
    · exact Nat.le_trans h.dw.size hk.1⟩
theorem BW.grow (h : BW s w0 w db d mb vs c M Z) (B : Below w.heap.size w w') : BW s w0 w' db d mb vs c M Z :=
  ⟨h.dw.grow B, h.may.kept (fun k hz => B.block k (h.dw.lt k hz)), h.ge⟩
theorem BW.drew (h : BW s w0 w db d mb vs c M Z) : BW s w0 w.drew db d mb vs c M Z := h.grow (Below.refl _ _).drew
theorem BW.disk {d' : Dk} (h : BW s w0 w db d mb vs c M Z) (D : DW s w0 w' db d' Z) (K : Kept (old s Z) w w') : BW s w0 w' db d' mb vs c M Z :=
  ⟨D, h.may.kept (fun k hz => K.2 k (Or.inr hz)), h.ge⟩
theorem BW.start {ps : List (Nat × List UInt8)} (h : QP s w0 w db d []) : BW s w0 (w.alloc (.cells #[.slice none 0 0, .slice none 0 0, .slice none 0 0] 54)) db d w.heap.size [.slice none 0 0, .slice none 0 0, .slice none 0 0] 0 M (fun k => (∃ x ∈ ([] : List (Nat × List UInt8)), x.1 = k) ∨ (w.heap.size ≤ k ∧ k < (w.alloc (.cells #[.slice none 0 0, .slice none 0 0, .slice none 0 0] 54)).heap.size)) := by
  have B : Below w.heap.size w (w.alloc (.cells #[.slice none 0 0, .slice none 0 0, .slice none 0 0] 54)) := (Below.refl _ _).alloc (Nat.le_refl _) _
  refine ⟨h.1.add B, may_start w _ M (Or.inr ⟨Nat.le_refl _, by simp⟩), fun k hk => ?_⟩
  rcases hk with ⟨_, hx, _⟩ | hk
  · cases hx
  · exact Nat.le_trans h.1.size hk.1
theorem BW.cellAt (h : BW s w0 w db d mb vs c M Z) {k : Nat} (hk : k < 3) : ∃ v, vs[k]? = some v ∧ w.cell? ⟨mb, k, none⟩ = some v ∧ w.frozen? ⟨mb, k, none⟩ = false := by
  have hl := h.may.len
  refine ⟨vs[k]'(by omega), List.getElem?_eq_getElem (by omega), ?_, h.may.blk.frozen k⟩
  rw [h.may.blk.cell k]
  exact List.getElem?_eq_getElem (by omega)
/-- Behind a step that turned a row's own block, and the row's place. -/
theorem BW.turned (h : BW s w0 w db d mb vs c M Z) (N : Nat) (hN : N < 3) {c' : Nat} (hc : (c' = c ∧ N < c) ∨ (c' = c + 1 ∧ N = c)) (G : Nat → Prop) (C : Chg G w w') (hG : ∀ k, G k → N < c ∧ ∃ v, vs[N]? = some v ∧ v.ownBlock = some k) (v' : Value) (L' : List (List UInt8))
    (R : PRow w' (fun k => Z k ∨ (w.heap.size ≤ k ∧ k < w'.heap.size)) v' L') (hown : ∀ k, v'.ownBlock = some k → G k ∨ w.heap.size ≤ k) (hnew : N < c → ∀ k, v'.ownBlock = some k → w.heap.size ≤ k ∨ ∃ v, vs[N]? = some v ∧ v.ownBlock = some k) :
    BW s w0 (w'.setCell ⟨mb, N, none⟩ v') db d mb (vs.set N v') c' (fun j => if j = N then L' else M j) (fun k => Z k ∨ (w.heap.size ≤ k ∧ k < w'.heap.size)) := by
  have hZG : ∀ k, G k → Z k := fun k g => by
    obtain ⟨hn, v, e, o⟩ := hG k g
    obtain ⟨v2, e2, r⟩ := h.may.row N hn
    rw [e] at e2
    cases e2
    obtain ⟨g2, cur, o2, z2, _⟩ := r.own
    rw [o] at o2
    cases o2
    exact z2
  have C2 : Chg Z w (w'.setCell ⟨mb, N, none⟩ v') := (C.mono (fun k _ g => hZG k g)).setCell (Or.inl h.may.zm) _
  have hsz : (w'.setCell ⟨mb, N, none⟩ v').heap.size = w'.heap.size := set_size _ _ _
  refine ⟨⟨h.dw.bel.trans (C2.below (fun k z => h.ge k z) h.dw.size), Nat.le_trans h.dw.size C2.size, fun k hk => ?_, ?_⟩, h.may.set N hN hc G C hG h.dw.lt v' L' R (fun k hz => Or.inl hz) hown hnew, fun k hk => ?_⟩
  · rw [hsz]
    rcases hk with hk | hk
    · exact Nat.lt_of_lt_of_le (h.dw.lt k hk) C.size
    · exact hk.2
  · refine (h.dw.pd.mono (fun k hk f => ?_)).chg C2 (fun k f z => f.2 (Or.inl z))
    exact ⟨f.1, fun z => by
      rcases z with z | z
      · exact f.2 z
      · omega⟩
  · rcases hk with hk | hk
    · exact h.ge k hk
    · exact Nat.le_trans h.dw.size hk.1
/-- The first page of a row. -/
theorem BW.init (h : BW s w0 w db d mb vs c M Z) (hc : c < 3) (m : List UInt8) :
    BW s w0 (((w.alloc (.cells (bcells m).toArray 5)).alloc (.cells #[.slice (some ⟨w.heap.size, 0, none⟩) 512 512] 30)).setCell ⟨mb, c, none⟩ (.slice (some ⟨w.heap.size + 1, 0, none⟩) 1 1)) db d mb (vs.set c (.slice (some ⟨w.heap.size + 1, 0, none⟩) 1 1)) (c + 1) (fun j => if j = c then [m] else M j)
      (fun k => Z k ∨ (w.heap.size ≤ k ∧ k < ((w.alloc (.cells (bcells m).toArray 5)).alloc (.cells #[.slice (some ⟨w.heap.size, 0, none⟩) 512 512] 30)).heap.size)) := by
  have e1 : (w.alloc (.cells (bcells m).toArray 5)).heap.size = w.heap.size + 1 := by simp
  have e2 : ((w.alloc (.cells (bcells m).toArray 5)).alloc (.cells #[.slice (some ⟨w.heap.size, 0, none⟩) 512 512] 30)).heap.size = w.heap.size + 2 := by simp
  have R := PRow.new (w.alloc (.cells (bcells m).toArray 5)) (fun k => Z k ∨ (w.heap.size ≤ k ∧ k < ((w.alloc (.cells (bcells m).toArray 5)).alloc (.cells #[.slice (some ⟨w.heap.size, 0, none⟩) 512 512] 30)).heap.size)) m w.heap.size (Blk.new w (bcells m) _) (Or.inr ⟨Nat.le_refl _, by rw [e2]; omega⟩) (Or.inr ⟨by rw [e1]; omega, by rw [e1, e2]; omega⟩)
  rw [e1] at R
  refine h.turned c hc (Or.inr ⟨rfl, rfl⟩) (fun _ => False) (((Chg.refl _ w).alloc _).alloc _) (fun k g => g.elim) _ _ R (fun k hk => ?_) (fun hn => absurd hn (Nat.lt_irrefl c))
  simp only [Value.ownBlock, Option.some.injEq] at hk
  right
  omega
/-- A page onto a row: the run, and what is there behind the store. -/
theorem BW.appended (h : BW s w0 w db d mb vs 3 M Z) {N : Nat} (hN : N < 3) (ty : TypeId) (sb pb : Nat) (m : List UInt8) (hsrc : w.cell? ⟨sb, 0, none⟩ = some (.slice (some ⟨pb, 0, none⟩) 512 512)) (hp : Blk w pb (bcells m) 5) (hz : Z pb) (hl : (M N).length ≤ 1000) {v : Value} (hv : vs[N]? = some v) :
    ∃ g off cap w', (Builtin.append_ #[53, 53] ty #[v, .slice (some ⟨sb, 0, none⟩) 1 1]).run Try.prog w = .ok (.slice (some ⟨g, off, none⟩) ((M N).length + 1) cap) w' ∧ w'.cell? ⟨mb, N, none⟩ = some v ∧ w'.frozen? ⟨mb, N, none⟩ = false ∧
      BW s w0 (w'.setCell ⟨mb, N, none⟩ (.slice (some ⟨g, off, none⟩) ((M N).length + 1) cap)) db d mb (vs.set N (.slice (some ⟨g, off, none⟩) ((M N).length + 1) cap)) 3 (fun j => if j = N then M N ++ [m] else M j) (fun k => Z k ∨ (w.heap.size ≤ k ∧ k < w'.heap.size)) ∧ Chg (fun k => v.ownBlock = some k) w w' := by
  obtain ⟨v2, e2, r⟩ := h.may.row N hN
  rw [hv] at e2
  cases e2
  obtain ⟨g, off, cap, w', run, C, R, ho⟩ := r.append ty sb pb m hsrc hp hz hl
  have hmb : Blk w' mb vs 54 := h.may.blk.chg C (fun e => by
    obtain ⟨g2, cur, o2, _, hh⟩ := r.own
    rw [e] at o2
    cases o2
    have := h.may.blk.symm.trans hh
    simp at this)
  refine ⟨g, off, cap, w', run, (hmb.cell N).trans hv, hmb.frozen N, h.turned N hN (Or.inl ⟨rfl, hN⟩) (fun k => v.ownBlock = some k) C (fun k e => ⟨hN, v, hv, e⟩) _ _ R (fun k hk => ?_) (fun _ k hk => ?_), C⟩
  · simp only [Value.ownBlock, Option.some.injEq] at hk
    subst hk
    exact ho
  · simp only [Value.ownBlock, Option.some.injEq] at hk
    subst hk
    rcases ho with ho | ho
    · exact Or.inr ⟨v, hv, ho⟩
    · exact Or.inl ho
/-- The last page of a row alone. -/
theorem BW.cut (h : BW s w0 w db d mb vs 3 M Z) {N : Nat} (hN : N < 3) (b : List UInt8) (hb : (M N).getLast? = some b) :
    ∃ g off cap, vs[N]? = some (.slice (some ⟨g, off, none⟩) (M N).length cap) ∧ (M N).length ≤ cap ∧ cap ≤ maxLen ∧ 0 < (M N).length ∧ ∃ Y, BW s w0 (w.setCell ⟨mb, N, none⟩ (.slice (some ⟨g, off + ((M N).length - 1), none⟩) 1 (cap - ((M N).length - 1)))) db d mb (vs.set N (.slice (some ⟨g, off + ((M N).length - 1), none⟩) 1 (cap - ((M N).length - 1)))) 3 (fun j => if j = N then [b] else M j) Y := by
  obtain ⟨v, e, r⟩ := h.may.row N hN
  obtain ⟨g, off, cap, rfl, h1, h2, R⟩ := r.last b hb
  refine ⟨g, off, cap, e, h1, h2, by cases hM : M N with | nil => rw [hM] at hb; cases hb | cons a r => simp, _, h.turned (w' := w) N hN (Or.inl ⟨rfl, hN⟩) (fun k => (Value.slice (some ⟨g, off, none⟩) (M N).length cap).ownBlock = some k) (Chg.refl _ w) (fun k q => ⟨hN, _, e, q⟩) _ _ (R.mono (fun k hz => Or.inl hz)) (fun k hk => Or.inl hk) (fun _ k hk => ?_)⟩
  · simp only [Value.ownBlock, Option.some.injEq] at hk
    subst hk
    exact Or.inr ⟨_, e, rfl⟩
/-- Behind the page's making: the append, and all that is kept. -/
theorem BW.laid {w5 w6 : World} {ob : Nat} {ocs : List Value} (h : BW s w0 w5 db d mb vs 3 M Z) (Bo : Blk w5 ob ocs 33) (B6 : Below w5.heap.size w5 w6) {m : List UInt8} (G6 : Blk w6 (w5.heap.size + 1) (bcells m) 5) {N : Nat} (hN : N < 3) (hl : (M N).length ≤ 1000) {v : Value} (hv : vs[N]? = some v) :
    Blk w6 ob ocs 33 ∧ w6.cell? ⟨mb, N, none⟩ = some v ∧ Blk (w6.alloc (.cells #[.slice (some ⟨w5.heap.size + 1, 0, none⟩) 512 512] 30)) ob ocs 33 ∧ (w6.alloc (.cells #[.slice (some ⟨w5.heap.size + 1, 0, none⟩) 512 512] 30)).cell? ⟨mb, N, none⟩ = some v ∧
    ∃ g off cap w8, (Builtin.append_ #[53, 53] 53 #[v, .slice (some ⟨w6.heap.size, 0, none⟩) 1 1]).run Try.prog (w6.alloc (.cells #[.slice (some ⟨w5.heap.size + 1, 0, none⟩) 512 512] 30)) = .ok (.slice (some ⟨g, off, none⟩) ((M N).length + 1) cap) w8 ∧
      w8.cell? ⟨mb, N, none⟩ = some v ∧ w8.frozen? ⟨mb, N, none⟩ = false ∧ Blk w8 ob ocs 33 ∧
      ∃ Y, BW s w0 (w8.setCell ⟨mb, N, none⟩ (.slice (some ⟨g, off, none⟩) ((M N).length + 1) cap)) db d mb (vs.set N (.slice (some ⟨g, off, none⟩) ((M N).length + 1) cap)) 3 (fun j => if j = N then M N ++ [m] else M j) Y := by
  have h6 := h.add B6
  have Bo6 := Bo.below B6 Bo.lt
  have Bo7 := Bo6.alloc (.cells #[.slice (some ⟨w5.heap.size + 1, 0, none⟩) 512 512] 30)
  have h7 := h6.grow ((Below.refl w6.heap.size w6).alloc (Nat.le_refl _) (.cells #[.slice (some ⟨w5.heap.size + 1, 0, none⟩) 512 512] 30))
  have c6 : w6.cell? ⟨mb, N, none⟩ = some v := (h6.may.blk.cell N).trans hv
  have c7 := (h7.may.blk.cell N).trans hv
  obtain ⟨g, off, cap, w8, run, c8, f8, h8, C8⟩ := h7.appended hN 53 w6.heap.size (w5.heap.size + 1) m ((Blk.new w6 [.slice (some ⟨w5.heap.size + 1, 0, none⟩) 512 512] 30).cell 0) (G6.alloc _) (Or.inr ⟨Nat.le_succ _, G6.lt⟩) hl hv
  have Bo8 : Blk w8 ob ocs 33 := Bo7.chg C8 (fun e => by
    obtain ⟨v2, e2, r⟩ := h7.may.row N hN
    rw [hv] at e2
    cases e2
    obtain ⟨g2, cur, o2, _, hh⟩ := r.own
    rw [e] at o2
    cases o2
    have := Bo7.symm.trans hh
    simp at this)
  exact ⟨Bo6, c6, Bo7, c7, g, off, cap, w8, run, c8, f8, Bo8, _, h8⟩
end Go.Proofs.Ytfgcjcffplglhaa
