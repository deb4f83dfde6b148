/- What the document's Write does. Condition: fewer than a million writes are pending. -/
import Derived.Test.YtnecigbncggogaaDkRefList
import Derived.Deep.RegionLaw
namespace Go.Proofs.Ytnecigbncggogaa
open Go.RowKit
set_option linter.unusedVariables false
set_option maxRecDepth 20000

/-- append of bytes at a step of a region that draws. -/
theorem stBlk {ops : Array Oper} {o : Oper} {a : Act} {w : World} {K : Act → World → Prop} {Q : Exit → Act → World → Prop} {E : Prop} (base : Nat) (s x : Operand) (v : Value) (l m : List UInt8) (hgd : o.guard = none)
    (ho : o.op = .call { callee := .builtin .append, args := #[s, x], argTypes := #[22, 22] }) (hs : a.eval s = v) (sp : Option Addr) (cx : Nat) (n : Nat) (hx : a.eval x = .slice sp n cx) (hn : n = m.length)
    (O : OwnB w base v l) (X : Byts w sp m) (hm : 0 < m.length) (hl : l.length + m.length ≤ 140737488351232) (hb : base ≤ w.heap.size)
    (h : ∀ v' w', OwnB w' base v' (l ++ m) → w.grownBy w' v.ownBlock → (v'.ownBlock = v.ownBlock ∨ v'.ownBlock = some w.heap.size) → K (a.put o.dst v') w') :
    if Region.wanted o (yielded ops a.tmps) = true then Oper.wp Try.prog o a w K Q else E := by
  subst hn
  obtain ⟨i0, hi, hz0, hz1, hz2⟩ := info_parts infoByte
  obtain ⟨ad, rfl, hsrc⟩ := X.src (by rw [bcells_len]; exact hm)
  refine step_append_lies _ hgd s x 22 ho base 5 i0 (.int .u8 0) 1 1 Try.underlying22 hi hz0 hz1 hz2 rfl (by decide) v _ _ hs O _ m.length cx (bcells m) hx (by rw [bcells_len]; omega) hsrc (bcells_one m) hm (by unfold maxLen; omega) (by omega) hb _ rfl ?_
  intro g' cap' w3 hown hgrow hat hlt
  rw [bcells_append] at hown
  refine h _ w3 ?_ hgrow ?_
  · unfold OwnB
    rw [List.length_append]
    exact hown
  · rcases hat with h | h
    · exact Or.inl (by rw [h]; rfl)
    · exact Or.inr (by rw [h]; rfl)
theorem infoRW : (Try.prog.info? 113).map (fun i => (i.zero, i.size, i.bytes)) = some (some (.agg #[.int .i64 0, .slice none 0 0]), 2, 32) := by kernel_rfl
/-- The new write is put behind the others. -/
theorem rd_push {w4 w5 w7 : World} {rb lb : Nat} {pv : Value} {rp : RP} {d : Dk} {n : Int} {b : List UInt8} {g5 c5 g7 c7 : Nat} (h : RDisk w4 rb lb pv rp d) (hb : b.length = 512) (h0 : 0 ≤ n) (h1 : n < d.pages)
    (O5 : OwnB w5 w4.heap.size (.slice (some ⟨g5, 0, none⟩) 512 c5) b) (hc5 : 512 ≤ c5 ∧ c5 ≤ maxLen) (G5 : (w4.drew.alloc (.cells #[] 5)).grownBy w5 (some w4.heap.size))
    (O7 : w7.ownsRow 0 113 2 (.slice (some ⟨g7, 0, none⟩) (d.pend.length + 1) c7) (d.pend.length + 1) (rws rp ++ rw1 ((n, b), (g5, c5))))
    (G7 : (w5.alloc (.cells #[.int .i64 n, .slice (some ⟨g5, 0, none⟩) 512 c5] 113)).grownBy w7 pv.ownBlock) (A7 : pv.ownBlock = some g7 ∨ g7 = w5.heap.size + 1) (L7 : g7 < w7.heap.size) :
    RDisk (w7.setCell ⟨rb, 1, none⟩ (.slice (some ⟨g7, 0, none⟩) (d.pend.length + 1) c7)) rb lb (.slice (some ⟨g7, 0, none⟩) (d.pend.length + 1) c7) (rp ++ [((n, b), (g5, c5))]) (d.push n b) ∧
    (∀ F : Nat → Prop, F rb → (∀ k, pv.ownBlock = some k → F k) → Chg F w4 (w7.setCell ⟨rb, 1, none⟩ (.slice (some ⟨g7, 0, none⟩) (d.pend.length + 1) c7))) ∧
    (w4.heap.size ≤ g5 ∧ g5 < (w7.setCell ⟨rb, 1, none⟩ (.slice (some ⟨g7, 0, none⟩) (d.pend.length + 1) c7)).heap.size) ∧ (pv.ownBlock = some g7 ∨ (w4.heap.size ≤ g7 ∧ g7 < (w7.setCell ⟨rb, 1, none⟩ (.slice (some ⟨g7, 0, none⟩) (d.pend.length + 1) c7)).heap.size)) := by
  have s4 : (w4.drew.alloc (.cells #[] 5)).heap.size = w4.heap.size + 1 := by simp
  have s5 := G5.size
  have s6 : (w5.alloc (.cells #[.int .i64 n, .slice (some ⟨g5, 0, none⟩) 512 c5] 113)).heap.size = w5.heap.size + 1 := by simp
  have s7 := G7.size
  have lg5 := World.ownsRow.lt O5 g5 rfl
  have e5 : ∀ k, k < w4.heap.size → w5.heap[k]? = w4.heap[k]? := fun k hk =>
    (G5.block k (by omega) (by simp; omega)).trans (Below.heap_alloc w4.drew _ _ hk)
  have e7 : ∀ k, k < w5.heap.size → pv.ownBlock ≠ some k → w7.heap[k]? = w5.heap[k]? := fun k hk hn =>
    (G7.block k (by omega) (fun e => hn e.symm)).trans (Below.heap_alloc w5 _ _ hk)
  have lr := h.blk.lt
  have ll := h.lm.lt
  have lo : ∀ k, pv.ownBlock = some k → k < w4.heap.size := fun k hk => (h.pd.lt k hk).2
  have gr : g7 ≠ rb := by
    rintro rfl
    rcases A7 with a | a
    · exact h.np a
    · omega
  have gl : g7 ≠ lb := by
    rintro rfl
    rcases A7 with a | a
    · exact h.nq a
    · omega
  have o5 : pv.ownBlock ≠ some g5 := fun e => by have := lo _ e; omega
  have e57 : ∀ k, k < w4.heap.size → pv.ownBlock ≠ some k → w7.heap[k]? = w4.heap[k]? := fun k hk hn => (e7 k (by omega) hn).trans (e5 k hk)
  have b7 := (h.blk.same (e57 rb lr h.np)).set (i := 1) (.slice (some ⟨g7, 0, none⟩) (d.pend.length + 1) c7)
  refine ⟨⟨b7, ?_, ?_, ?_, ?_, ?_, h.nl, ?_, ?_, h.ok.push hb h0 h1⟩, ?_, ?_, ?_⟩
  · exact (h.lm.same (e57 lb ll h.nq)).same (set_block h.nl)
  · have q := own_same O7 (w' := w7.setCell ⟨rb, 1, none⟩ (.slice (some ⟨g7, 0, none⟩) (d.pend.length + 1) c7)) (fun k hk => by
      simp only [Value.ownBlock, Option.some.injEq] at hk
      subst hk
      exact set_block gr)
    show World.ownsRow _ 0 _ 2 _ (d.pend ++ [(n, b)]).length (rws (rp ++ [((n, b), (g5, c5))]))
    rw [List.length_append, rws_snoc]
    exact q
  · show d.pend ++ [(n, b)] = _
    rw [h.pe, List.map_append]
    rfl
  · intro x hx
    rcases List.mem_append.1 hx with hx | hx
    · refine (h.pb x hx).same (fun b' off he => ?_)
      simp only [Option.some.injEq, Addr.mk.injEq] at he
      rw [← he.1]
      have hp := h.pn x hx
      exact (set_block hp.1).trans (e57 _ (h.lt (Or.inr (Or.inr (Or.inr ⟨x, hx, rfl⟩)))) hp.2.2.1)
    · rw [List.mem_singleton] at hx
      subst hx
      refine (own_bts O5).same (fun b' off he => ?_)
      simp only [Option.some.injEq, Addr.mk.injEq] at he
      rw [← he.1]
      exact (set_block (by omega)).trans (e7 _ lg5.2 o5)
  · intro x hx
    rcases List.mem_append.1 hx with hx | hx
    · have hp := h.pn x hx
      refine ⟨hp.1, hp.2.1, ?_, hp.2.2.2⟩
      simp only [Value.ownBlock, ne_eq, Option.some.injEq]
      rintro e
      rcases A7 with a | a
      · exact hp.2.2.1 (by rw [a, e])
      · have := h.lt (Or.inr (Or.inr (Or.inr ⟨x, hx, rfl⟩)))
        omega
    · rw [List.mem_singleton] at hx
      subst hx
      refine ⟨by show g5 ≠ rb; omega, by show g5 ≠ lb; omega, ?_, hc5⟩
      simp only [Value.ownBlock, ne_eq, Option.some.injEq]
      rintro e
      rcases A7 with a | a
      · exact o5 (by rw [a, e])
      · omega
  · simp only [Value.ownBlock, ne_eq, Option.some.injEq]
    exact gr
  · simp only [Value.ownBlock, ne_eq, Option.some.injEq]
    exact gl
  · intro F f1 f2
    exact ((((Chg.refl F w4).drew.alloc _).grown G5 (fun k hk => Or.inr (by simp at hk; omega))).alloc _).grown G7 (fun k hk => Or.inl (f2 k hk)) |>.setCell (Or.inl f1) _
  · rw [set_size]
    omega
  · rw [set_size]
    rcases A7 with a | a
    · exact Or.inl a
    · right; omega
end Go.Proofs.Ytnecigbncggogaa
