/- Keys and numbers that grow beside each other, each in rows of their own. No conditions. -/
import Derived.Test.YtilmlegkkgiahaaNdLeaf
namespace Go.Proofs.Ytilmlegkkgiahaa
open Go.RowKit Go.Lib
set_option linter.unusedVariables false
set_option maxRecDepth 20000

def KD (w : World) (base xb : Nat) (kv dv : Value) (ks : List (List UInt8)) (ds : List Int) : Prop :=
  ∃ (F : Nat → Prop) (xs : List Value), w.ownsRow base 31 1 kv ks.length xs ∧ KsR w F xs ks ∧ (∀ j, F j → base ≤ j ∧ j < w.heap.size ∧ kv.ownBlock ≠ some j ∧ dv.ownBlock ≠ some j ∧ j ≠ xb) ∧ OwnD w base dv ds ∧ (∀ j, kv.ownBlock = some j → dv.ownBlock ≠ some j) ∧ kv.ownBlock ≠ some xb ∧ dv.ownBlock ≠ some xb
theorem KD.chg {w w' : World} {base xb : Nat} {kv dv : Value} {ks : List (List UInt8)} {ds : List Int} {G : Nat → Prop} (h : KD w base xb kv dv ks ds) (C : Chg G w w') (hG : ∀ j, G j → j < base ∨ j = xb) : KD w' base xb kv dv ks ds := by
  obtain ⟨F, xs, h1, h2, h3, h4, h5, h6, h7⟩ := h
  refine ⟨F, xs, rows_same h1 (fun j hj => C.block j (h1.lt j hj).2 (fun g => ?_)), h2.kp (Kp.of_chg C (fun j hj g => ?_)), fun j hj => ?_, rows_same h4 (fun j hj => C.block j (h4.lt j hj).2 (fun g => ?_)), h5, h6, h7⟩
  · rcases hG j g with q | q
    · have := (h1.lt j hj).1; omega
    · exact h6 (by rw [← q]; exact hj)
  · rcases hG j g with q | q
    · have := (h3 j hj).1; omega
    · exact (h3 j hj).2.2.2.2 q
  · obtain ⟨a, b, c⟩ := h3 j hj
    exact ⟨a, Nat.lt_of_lt_of_le b C.size, c⟩
  · rcases hG j g with q | q
    · have := (h4.lt j hj).1; omega
    · exact h7 (by rw [← q]; exact hj)
theorem KD.key {w : World} (ty : TypeId) {base xb : Nat} {kv dv x : Value} {ks : List (List UInt8)} {ds : List Int} {k : List UInt8} {B : Nat} (h : KD w base xb kv dv ks ds) (g c : Nat) (X : w.cell? ⟨g, 0, none⟩ = some x) (R : BV w (B ≤ ·) x k)
    (hB : ∀ j, B ≤ j → base ≤ j ∧ kv.ownBlock ≠ some j ∧ dv.ownBlock ≠ some j ∧ j ≠ xb) (hl : (ks.length + 1) * 24 ≤ 140737488351232) (hb : base ≤ w.heap.size) (hx : xb < w.heap.size) :
    ∃ v' w', (Builtin.append_ #[23, 23] ty #[kv, .slice (some ⟨g, 0, none⟩) 1 c]).run Try.prog w = .ok v' w' ∧ KD w' base xb v' dv (ks ++ [k]) ds ∧ (∀ wx, Past wx kv v' w w') := by
  obtain ⟨F, xs, h1, h2, h3, h4, h5, h6, h7⟩ := h
  obtain ⟨v', w', hr, a1, a2, a3⟩ := run_appG 23 ty 31 _ 1 24 Try.underlying23 infoKey rfl (by decide) base kv _ _ h1 (some ⟨g, 0, none⟩) 1 c [x] rfl (fun h => by cases h) (one_cell X) (by intro u hu; have hu' : u = x := (by simpa using hu); rw [hu']; exact R.one) (by unfold maxLen; omega) (by omega) hb
  have hn : ∀ j, j < w.heap.size → kv.ownBlock ≠ some j → v'.ownBlock ≠ some j := fun j hj hk e => by
    rcases a3 with q | q
    · exact hk (q.symm.trans e)
    · rw [q] at e; simp only [Option.some.injEq] at e; omega
  have hF : ∀ j, (F j ∨ B ≤ j) ∧ j < w.heap.size → base ≤ j ∧ kv.ownBlock ≠ some j ∧ dv.ownBlock ≠ some j ∧ j ≠ xb := fun j hj => by
    rcases hj.1 with q | q
    · obtain ⟨b1, _, b3⟩ := h3 j q; exact ⟨b1, b3⟩
    · exact hB j q
  refine ⟨v', w', hr, ⟨fun j => (F j ∨ B ≤ j) ∧ j < w.heap.size, xs ++ [x], by rw [List.length_append]; exact a1, ?_, fun j hj => ?_, ?_, fun j hj e => ?_, hn xb hx h6, h7⟩, past_of a2 a3⟩
  · refine ((h2.mono (fun j hj q => ⟨Or.inl q, hj⟩)).append (show KsR w _ [x] [k] from ⟨R.mono (fun j hj q => ⟨Or.inr q, hj⟩), trivial⟩)).kp (Kp.of_grown a2 (fun j hj => (hF j hj).2.1))
  · obtain ⟨b1, b2, b3, b4⟩ := hF j hj
    exact ⟨b1, Nat.lt_of_lt_of_le hj.2 a2.size, hn j hj.2 b2, b3, b4⟩
  · exact rows_same h4 (fun j hj => a2.block j (h4.lt j hj).2 (fun e => h5 j e.symm hj))
  · rcases a3 with q | q
    · exact h5 j (q.symm.trans hj) e
    · have := (h4.lt j e).2
      rw [q] at hj
      simp only [Option.some.injEq] at hj
      omega
theorem KD.kid {w : World} (ty : TypeId) {base xb : Nat} {kv dv : Value} {ks : List (List UInt8)} {ds : List Int} {n : Int} (h : KD w base xb kv dv ks ds) (g c : Nat) (X : w.cell? ⟨g, 0, none⟩ = some (.int .i64 n))
    (hl : (ds.length + 1) * 8 ≤ 140737488351232) (hb : base ≤ w.heap.size) (hx : xb < w.heap.size) :
    ∃ v' w', (Builtin.append_ #[24, 24] ty #[dv, .slice (some ⟨g, 0, none⟩) 1 c]).run Try.prog w = .ok v' w' ∧ KD w' base xb kv v' ks (ds ++ [n]) ∧ (∀ wx, Past wx dv v' w w') := by
  obtain ⟨F, xs, h1, h2, h3, h4, h5, h6, h7⟩ := h
  obtain ⟨v', w', hr, a1, a2, a3⟩ := run_appG 24 ty 3 _ 1 8 Try.underlying24 infoInt rfl (by decide) base dv _ _ h4 (some ⟨g, 0, none⟩) 1 c (icells [n]) rfl (fun h => by cases h) (one_cell X) (icells_one _) (by unfold maxLen; omega) (by omega) hb
  have hn : ∀ j, j < w.heap.size → dv.ownBlock ≠ some j → v'.ownBlock ≠ some j := fun j hj hk e => by
    rcases a3 with q | q
    · exact hk (q.symm.trans e)
    · rw [q] at e; simp only [Option.some.injEq] at e; omega
  refine ⟨v', w', hr, ⟨F, xs, rows_same h1 (fun j hj => a2.block j (h1.lt j hj).2 (fun e => h5 j hj e.symm)), h2.kp (Kp.of_grown a2 (fun j hj => (h3 j hj).2.2.2.1)), fun j hj => ?_, ?_, fun j hj => hn j (h1.lt j hj).2 (h5 j hj), h6, hn xb hx h7⟩, past_of a2 a3⟩
  · obtain ⟨b1, b2, b3, b4, b5⟩ := h3 j hj
    exact ⟨b1, Nat.lt_of_lt_of_le b2 a2.size, b3, hn j b2 b4, b5⟩
  · unfold OwnD
    rw [List.length_append, ← icells_append]
    exact a1
section
variable {ops : Array Oper} {o : Oper} {a : Act} {w : World} {K : Act → World → Prop} {Q : Exit → Act → World → Prop} {E : Prop} {s y : Operand} {base xb : Nat} {kv dv x : Value} {ks : List (List UInt8)} {ds : List Int}
theorem stKey {k : List UInt8} {B g c : Nat} (h0 : KD w base xb kv dv ks ds) (X : w.cell? ⟨g, 0, none⟩ = some x) (R : BV w (B ≤ ·) x k) (hB : ∀ j, B ≤ j → base ≤ j ∧ kv.ownBlock ≠ some j ∧ dv.ownBlock ≠ some j ∧ j ≠ xb)
    (hgd : o.guard = none) (ho : o.op = .call { callee := .builtin .append, args := #[s, y], argTypes := #[23, 23] }) (hs : a.eval s = kv) (hx : a.eval y = .slice (some ⟨g, 0, none⟩) 1 c)
    (hl : (ks.length + 1) * 24 ≤ 140737488351232) (hb : base ≤ w.heap.size) (hxb : xb < w.heap.size)
    (h : ∀ v' w', KD w' base xb v' dv (ks ++ [k]) ds → (∀ wx, Past wx kv v' w w') → K (a.put o.dst v') w') : if Region.wanted o (yielded ops a.tmps) = true then Oper.wp Try.prog o a w K Q else E := by
  obtain ⟨v', w', hr, h1, h2⟩ := h0.key o.type g c X R hB hl hb hxb
  exact st_run hgd ho hs hx hr (h v' w' h1 h2)
theorem stKid {n : Int} {g c : Nat} (h0 : KD w base xb kv dv ks ds) (X : w.cell? ⟨g, 0, none⟩ = some (.int .i64 n))
    (hgd : o.guard = none) (ho : o.op = .call { callee := .builtin .append, args := #[s, y], argTypes := #[24, 24] }) (hs : a.eval s = dv) (hx : a.eval y = .slice (some ⟨g, 0, none⟩) 1 c)
    (hl : (ds.length + 1) * 8 ≤ 140737488351232) (hb : base ≤ w.heap.size) (hxb : xb < w.heap.size)
    (h : ∀ v' w', KD w' base xb kv v' ks (ds ++ [n]) → (∀ wx, Past wx dv v' w w') → K (a.put o.dst v') w') : if Region.wanted o (yielded ops a.tmps) = true then Oper.wp Try.prog o a w K Q else E := by
  obtain ⟨v', w', hr, h1, h2⟩ := h0.kid o.type g c X hl hb hxb
  exact st_run hgd ho hs hx hr (h v' w' h1 h2)
end
theorem KD.forms {w : World} {base xb : Nat} {kv dv : Value} {ks : List (List UInt8)} {ds : List Int} (h : KD w base xb kv dv ks ds) (a b : Nat) (ha : ks.length = a) (hb : ds.length = b) : (∃ p c, kv = .slice p a c) ∧ (∃ p c, dv = .slice p b c) := by
  obtain ⟨F, xs, h1, _, _, h4, _⟩ := h
  rw [ha] at h1
  obtain ⟨p, c, e, _⟩ := row_form h1
  obtain ⟨q, d, e', _⟩ := row_form h4
  rw [hb] at e'
  exact ⟨⟨p, c, e⟩, ⟨q, d, e'⟩⟩
theorem KD.blocks {w : World} {base xb : Nat} {kv dv : Value} {ks : List (List UInt8)} {ds : List Int} (h : KD w base xb kv dv ks ds) : (∀ j, kv.ownBlock = some j → base ≤ j ∧ j < w.heap.size ∧ j ≠ xb) ∧ (∀ j, dv.ownBlock = some j → base ≤ j ∧ j < w.heap.size ∧ j ≠ xb) := by
  obtain ⟨F, xs, h1, _, _, h4, _, h6, h7⟩ := h
  exact ⟨fun j hj => ⟨(h1.lt j hj).1, (h1.lt j hj).2, fun e => h6 (by rw [← e]; exact hj)⟩, fun j hj => ⟨(h4.lt j hj).1, (h4.lt j hj).2, fun e => h7 (by rw [← e]; exact hj)⟩⟩
theorem KD.both {w : World} {base xb : Nat} {kv dv : Value} {ks : List (List UInt8)} {ds : List Int} (h : KD w base xb kv dv ks ds) (hk : ks.length * 24 ≤ 140737488351232) (hd : ds.length * 8 ≤ 140737488351232) (hi : ∀ x ∈ ds, i64b x) : KsV w (base ≤ ·) kv ks ∧ DsV w (base ≤ ·) dv ds := by
  obtain ⟨F, xs, h1, h2, h3, h4, _⟩ := h
  exact ⟨OwnK.ksv ⟨xs, h1, h2.mono (fun j _ hj => ⟨(h3 j hj).1, (h3 j hj).2.2.1⟩)⟩ hk, h4.dsv hd hi⟩
theorem own_oneD (w : World) (base : Nat) (hb : base ≤ w.heap.size) (d : Int) : OwnD (w.alloc (.cells #[.int .i64 d] 3)) base (.slice (some ⟨w.heap.size, 0, none⟩) 1 1) [d] := by
  refine ⟨by simp [icells], Or.inr ⟨w.heap.size, 1, _, rfl, hb, heap_alloc_new w _, Nat.le_refl _, by decide, by simp, by simp [icells]⟩⟩
theorem KD.start (w : World) (base : Nat) (hb : base ≤ w.heap.size) (d : Int) (o : Obj) : KD ((w.alloc (.cells #[.int .i64 d] 3)).alloc o) base (w.heap.size + 1) (.slice none 0 0) (.slice (some ⟨w.heap.size, 0, none⟩) 1 1) [] [d] :=
  ⟨fun _ => False, [], World.ownsRow_nil _ _ _ _, trivial, fun _ h => h.elim, (own_oneD w base hb d).alc o, fun j hj => by simp [Value.ownBlock] at hj, by simp [Value.ownBlock], by simp [Value.ownBlock]⟩
end Go.Proofs.Ytilmlegkkgiahaa
