/- append onto a full slice of bytes, and of noughts. Conditions: the bytes lie within the reach. -/
import Derived.Test.YtnecigbncggogaaDkRefWr
import Derived.Test.YtnecigbncggogaaPgHead
namespace Go.Proofs.Ytnecigbncggogaa
open Go.RowKit
set_option linter.unusedVariables false
set_option maxRecDepth 20000

theorem zeroCells_b (n : Nat) : (Builtin.zeroCells (Value.int .u8 0).cells n).toList = bcells (noughts n) := by
  have e : (Value.int IntKind.u8 0).cells = #[Value.int .u8 0] := rfl
  unfold Builtin.zeroCells
  rw [e]
  apply List.ext_getElem
  · simp [bcells, noughts]
  · intro i h1 h2
    simp [bcells, noughts, Nat.mod_one]
theorem bcells_noughts_one (n : Nat) : ∀ u ∈ bcells (noughts n), u.oneCell' = true := bcells_one _
/-- A row just made is owned. -/
theorem own_made (w : World) (l : List UInt8) (cap : Nat) (rest : Array Value) (hc : l.length ≤ cap) (hm : cap ≤ maxLen) (hr : rest.size = cap - l.length) : OwnB (w.drew.alloc (.cells ((bcells l).toArray ++ rest) 5)) w.heap.size (.slice (some ⟨w.heap.size, 0, none⟩) l.length cap) l := by
  refine ⟨by rw [bcells_len, Nat.mul_one], .inr ⟨w.heap.size, _, _, rfl, Nat.le_refl _, heap_alloc_new w.drew _, hc, hm, ?_, ?_⟩⟩
  · simp only [Array.size_append, List.size_toArray, bcells_len, hr]
    omega
  · simp only [Array.toList_append]
    rw [Nat.mul_one, ← bcells_len l]
    exact List.take_left
theorem run_append_full (w : World) (ty : TypeId) (g0 o0 : Nat) (l m : List UInt8) (g off cx : Nat) (L : Byts w (some ⟨g0, o0, none⟩) l) (X : Byts w (some ⟨g, off, none⟩) m) (hm : 0 < m.length) (hl : l.length + m.length ≤ 140737488351232) :
    ∃ v' w', (Builtin.append_ #[22, 22] ty #[.slice (some ⟨g0, o0, none⟩) l.length l.length, .slice (some ⟨g, off, none⟩) m.length cx]).run Try.prog w = .ok v' w' ∧ OwnB w' w.heap.size v' (l ++ m) ∧ Below w.heap.size w w' := by
  obtain ⟨i0, hi, hz0, hz1, hz2⟩ := info_parts infoByte
  have src : ∀ (g o : Nat) (l : List UInt8), Byts w (some ⟨g, o, none⟩) l → ∀ j v, (bcells l)[j]? = some v → w.cell? ((⟨g, o, none⟩ : Addr).add j) = some v := by
    intro g o l h j v hv
    have hj : j < l.length := by have := (List.getElem?_eq_some_iff.1 hv).1; rwa [bcells_len] at this
    obtain ⟨ad, e, hs⟩ := h.src (by rw [bcells_len]; omega)
    simp only [Option.some.injEq] at e
    subst e
    exact hs j v hv
  have hr := run_append_grow (P := Try.prog) w 22 ty 5 i0 (.int .u8 0) Try.underlying22 hi hz0 ⟨g0, o0, none⟩ l.length l.length (bcells l) (by rw [bcells_len, hz1, Nat.mul_one]) (src g0 o0 l L) ⟨g, off, none⟩ m.length cx (bcells m) (by rw [bcells_len, hz1, Nat.mul_one]) (src g off m X) (by omega) (by omega) (by rw [hz2]; exact growslice_fits (by omega) (by omega))
  refine ⟨_, _, hr, ?_, ((Below.refl _ _).drew).alloc (Nat.le_refl _) _⟩
  have hge := grownCap_ge w (l.length + m.length) l.length 5
  have hcm : grownCap w (l.length + m.length) l.length 5 ≤ maxLen := grownCap_le_maxLen w _ _ _ (by unfold maxLen; omega)
  have q := own_made w (l ++ m) (grownCap w (l.length + m.length) l.length 5) (Builtin.zeroCells (Value.int .u8 0).cells (grownCap w (l.length + m.length) l.length 5 - (l.length + m.length))) (by rw [List.length_append]; exact hge) hcm (by rw [size_zeroCells, List.length_append]; show _ * 1 = _; omega)
  rw [List.length_append] at q
  rw [← bcells_append] at q
  have e : ((bcells l ++ bcells m).toArray : Array Value) = (bcells l).toArray ++ (bcells m).toArray := by simp
  rw [e] at q
  exact q
/-- append(s, x...) onto a slice without room. -/
theorem appFull {ops : Array Oper} {rest : List Oper} {o : Oper} {a : Act} {w : World} {Q : Exit → Act → World → Prop} (s x : Operand) (l m : List UInt8) (hgd : o.guard = none)
    (ho : o.op = .call { callee := .builtin .append, args := #[s, x], argTypes := #[22, 22] }) (g0 o0 n0 c0 : Nat) (hs : a.eval s = .slice (some ⟨g0, o0, none⟩) n0 c0) (hn0 : n0 = l.length) (hc0 : c0 = l.length) (g off cx n : Nat) (hx : a.eval x = .slice (some ⟨g, off, none⟩) n cx) (hn : n = m.length)
    (L : Byts w (some ⟨g0, o0, none⟩) l) (X : Byts w (some ⟨g, off, none⟩) m) (hm : 0 < m.length) (hl : l.length + m.length ≤ 140737488351232)
    (h : ∀ v' w', OwnB w' w.heap.size v' (l ++ m) → Below w.heap.size w w' → wpList Try.prog ops Q rest (a.put o.dst v') w') : wpList Try.prog ops Q (o :: rest) a w := by
  subst hn hn0 hc0
  refine wpList_plain hgd fun K hK => ?_
  obtain ⟨v', w', hr, h2, h3⟩ := run_append_full w o.type g0 o0 l m g off cx L X hm hl
  unfold Oper.wp execOp
  simp only [ho, resolve, invoke, builtin, Sem.run_bind, Sem.run_pure, Result.andThen_ok, List.map_toArray, List.map_cons, List.map_nil, hs, hx, hr]
  exact hK _ _ (h v' w' h2 h3)
theorem run_append_zeros (w : World) (base : Nat) (ty : TypeId) (v : Value) (l : List UInt8) (n : Nat) (O : OwnB w base v l) (h0 : 0 < l.length) (hn : 0 < n) (hl : l.length + n ≤ 140737488351232) (hb : base ≤ w.heap.size) :
    ∃ v' w', (Builtin.append_ #[22, 3] ty #[v, .int .i64 (n : Int)]).run Try.prog w = .ok v' w' ∧ OwnB w' base v' (l ++ noughts n) ∧ w.grownBy w' v.ownBlock ∧ (v'.ownBlock = v.ownBlock ∨ v'.ownBlock = some w.heap.size) := by
  obtain ⟨i0, hi, hz0, hz1, hz2⟩ := info_parts infoByte
  have hw : IntKind.i64.wrap (n : Int) = (n : Int) := by
    have : IntKind.i64.wrap (n : Int) = ((n : Int) + 9223372036854775808) % 18446744073709551616 - 9223372036854775808 := by simp [IntKind.wrap, IntKind.bits, IntKind.signed]; omega
    rw [this]; omega
  have hneg : ¬ ((n : Int) < 0) := by omega
  have h48 : ¬ (281474976710656 < (n : Int)) := by omega
  have hlen : (l ++ noughts n).length = l.length + n := by rw [List.length_append, noughts_len]
  have hx : (bcells l).length = l.length * 1 := by rw [bcells_len, Nat.mul_one]
  have hnz : ¬ (n = 0) := by omega
  rcases O.2 with ⟨rfl, hz⟩ | ⟨g, cap, cur, rfl, hbg, hg, hnc, hcm, hcs, htake⟩
  · omega
  · by_cases hroom : l.length + n ≤ cap
    · have hcs' : cur.size = cap := by simpa using hcs
      have hst := run_storeCells_at Try.prog g l.length 5 (bcells (noughts n)) 0 cur w hg (by rw [bcells_len, noughts_len]; omega) (bcells_one _)
      simp only [Nat.add_zero, bcells_len, noughts_len] at hst
      refine ⟨.slice (some ⟨g, 0, none⟩) (l.length + n) cap, w.setRow g (cur.toList.take l.length ++ bcells (noughts n) ++ cur.toList.drop (l.length + n)).toArray, ?_, ?_, ⟨rfl, rfl, rfl, by simp, fun k _ hk => setRow_other w g k _ (fun e => hk (by simp [Value.ownBlock, e]))⟩, Or.inl rfl⟩
      · simp [Builtin.append_, run_underlying Try.underlying22, run_underlying Try.underlying3, sizeOf, typeInfo, hi, hz0, hz1, hz2, asInt, asIntOf, hw, hneg, h48, hroom, hnz, zeroValue, zeroCells_b, Addr.add_lit, hst]
      · refine ⟨by rw [bcells_len, Nat.mul_one], .inr ⟨g, cap, _, by rw [hlen], hbg, setRow_heap w g cur _ _ _ hg, by rw [hlen]; exact hroom, hcm, ?_, ?_⟩⟩
        · simp only [List.size_toArray, List.length_append, List.length_take, List.length_drop, Array.length_toList, bcells_len, noughts_len]
          omega
        · have ht' : cur.toList.take l.length = bcells l := by simpa using htake
          rw [ht', bcells_append, Nat.mul_one, ← bcells_len (l ++ noughts n)]
          exact List.take_left
    · have holds : ∀ j u, (bcells l)[j]? = some u → w.cell? ((⟨g, 0, none⟩ : Addr).add j) = some u := World.ownsRow.cells (g := g) O rfl
      have hfo := run_firstCells_some (P := Try.prog) w.drew 1 l.length ⟨g, 0, none⟩ l.length cap (bcells l) hx (by simpa using holds)
      have h63' : ¬ (9223372036854775807 < ((l.length : Int) + (n : Int))) := by omega
      have hfit := growslice_fits (need := l.length + n) (old := cap) (bytes := 1) (by omega) (by omega)
      have h48' : ¬ (281474976710656 < Builtin.nextslicecap (l.length + n) cap) := by omega
      have hge := grownCap_ge w (l.length + n) cap 5
      have hcm' : grownCap w (l.length + n) cap 5 ≤ maxLen := grownCap_le_maxLen w _ _ _ (by unfold maxLen; omega)
      refine ⟨.slice (some ⟨w.heap.size, 0, none⟩) (l.length + n) (grownCap w (l.length + n) cap 5), w.drew.alloc (.cells ((bcells (l ++ noughts n)).toArray ++ Builtin.zeroCells (Value.int .u8 0).cells (grownCap w (l.length + n) cap 5 - (l.length + n))) 5), ?_, ?_, ⟨rfl, rfl, rfl, by simp, fun k hk _ => Below.heap_alloc _ _ _ hk⟩, Or.inr rfl⟩
      · simp [Builtin.append_, run_underlying Try.underlying22, run_underlying Try.underlying3, sizeOf, typeInfo, hi, hz0, hz1, hz2, asInt, asIntOf, hw, hneg, h48, hroom, hnz, zeroValue, Builtin.lenOf, h63', h48', Question.forced, hfo, newRow, grownCap]
        congr 2
        apply Array.ext'
        simp [zeroCells_b, ← bcells_append, List.append_assoc]
      · have q := own_made w (l ++ noughts n) (grownCap w (l.length + n) cap 5) (Builtin.zeroCells (Value.int .u8 0).cells (grownCap w (l.length + n) cap 5 - (l.length + n))) (by rw [hlen]; exact hge) hcm' (by rw [size_zeroCells, hlen]; show _ * 1 = _; omega)
        rw [hlen] at q
        obtain ⟨q1, q2⟩ := q
        refine ⟨q1, ?_⟩
        rcases q2 with ⟨q3, _⟩ | ⟨g', c', cur', e1, _, e3⟩
        · cases q3
        · have eg : g' = w.heap.size := by simp only [Value.slice.injEq, Option.some.injEq, Addr.mk.injEq] at e1; exact e1.1.1.symm
          exact .inr ⟨g', c', cur', by rw [hlen] at e1; rw [hlen]; exact e1, by omega, e3⟩
/-- append(s, make([]byte, n)...). -/
theorem appZeros {ops : Array Oper} {rest : List Oper} {o : Oper} {a : Act} {w : World} {Q : Exit → Act → World → Prop} (base : Nat) (s x : Operand) (v : Value) (l : List UInt8) (n : Nat) (hgd : o.guard = none)
    (ho : o.op = .call { callee := .builtin .append, args := #[s, x], argTypes := #[22, 3] }) (hs : a.eval s = v) (z : Int) (hx : a.eval x = .int .i64 z) (hz : z = (n : Int))
    (O : OwnB w base v l) (h0 : 0 < l.length) (hn : 0 < n) (hl : l.length + n ≤ 140737488351232) (hb : base ≤ w.heap.size)
    (h : ∀ v' w', OwnB w' base v' (l ++ noughts n) → w.grownBy w' v.ownBlock → (v'.ownBlock = v.ownBlock ∨ v'.ownBlock = some w.heap.size) → wpList Try.prog ops Q rest (a.put o.dst v') w') : wpList Try.prog ops Q (o :: rest) a w := by
  subst hz
  refine wpList_plain hgd fun K hK => ?_
  obtain ⟨v', w', hr, h2, h3, h4⟩ := run_append_zeros w base o.type v l n O h0 hn hl hb
  unfold Oper.wp execOp
  simp only [ho, resolve, invoke, builtin, Sem.run_bind, Sem.run_pure, Result.andThen_ok, List.map_toArray, List.map_cons, List.map_nil, hs, hx, hr]
  exact hK _ _ (h v' w' h2 h3 h4)
end Go.Proofs.Ytnecigbncggogaa
