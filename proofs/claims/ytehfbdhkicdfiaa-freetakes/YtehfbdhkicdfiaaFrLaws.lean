/- Plain mathematics of sets of pages: what is left, what taking and giving back do to it; rows of numbers that are appended to; numbers folded into a range. No conditions. -/
import Derived.Test.YtehfbdhkicdfiaaFrWorks
namespace Go.Proofs.Ytehfbdhkicdfiaa
open Go.RowKit
set_option linter.unusedVariables false
set_option maxRecDepth 20000

theorem hs_set (u : List Bool) (n : Nat) (b : Bool) (j : Int) : hs (u.set n b) j = hs u j := by simp [hs]
theorem fr_set {u : List Bool} {n : Nat} (b : Bool) {j : Nat} (hj : j ≠ n) : fr (u.set n b) (j : Int) = fr u (j : Int) := by
  unfold fr
  rw [hs_set]
  congr 2
  simp [List.getD, Ne.symm hj]
theorem fr_set_same {u : List Bool} {n : Nat} (hn : n < u.length) : fr (u.set n true) (n : Int) = false := by
  unfold fr
  simp [hn]
theorem leftTo_set {u : List Bool} {n : Nat} (hn : n < u.length) (hf : fr u (n : Int) = true) : ∀ k : Nat, leftTo (u.set n true) k + (if n < k then 1 else 0) = leftTo u k
  | 0 => by simp [leftTo_zero]
  | k + 1 => by
    have ih := leftTo_set hn hf k
    rw [leftTo_succ, leftTo_succ]
    by_cases h : k = n
    · subst h
      rw [fr_set_same hn, hf]
      simp only [Nat.lt_irrefl, if_false] at ih
      simp
      omega
    · rw [fr_set true h]
      by_cases h2 : n < k
      · rw [if_pos h2] at ih
        rw [if_pos (show n < k + 1 by omega)]
        omega
      · rw [if_neg h2] at ih
        rw [if_neg (show ¬ n < k + 1 by omega)]
        omega
theorem left_set {u : List Bool} {n : Nat} (hn : n < u.length) (hf : fr u (n : Int) = true) : left (u.set n true) + 1 = left u := by
  have := leftTo_set hn hf u.length
  rw [if_pos hn] at this
  unfold left
  rw [List.length_set]
  exact this
theorem leftTo_none {u : List Bool} : ∀ {k : Nat}, (∀ n : Nat, fr u (n : Int) = false) → leftTo u k = 0
  | 0, _ => rfl
  | k + 1, h => by rw [leftTo_succ, leftTo_none h, h k]; rfl
theorem leftTo_pos {u : List Bool} {n : Nat} (hf : fr u (n : Int) = true) : ∀ {k : Nat}, n < k → 0 < leftTo u k
  | k + 1, h => by
    rw [leftTo_succ]
    by_cases e : n = k
    · subst e; rw [hf]; simp
    · have := leftTo_pos hf (k := k) (by omega)
      omega
/-- What Take does, where one is left, and where none is. -/
theorem take_some {u : List Bool} (h : 0 < left u) : ∃ n : Nat, takeN u = (n : Int) ∧ takeB u = true ∧ takeU u = u.set n true ∧ 2 ≤ n ∧ n < u.length ∧ fr u (n : Int) = true ∧ (∀ j : Nat, j < n → fr u (j : Int) = false) ∧ left (takeU u) + 1 = left u := by
  cases hl : least u with
  | none => rw [show left u = 0 from leftTo_none (least_none hl)] at h; omega
  | some n =>
    obtain ⟨h1, h2, h3, h4⟩ := least_is hl
    refine ⟨n, by simp [takeN, hl], by simp [takeB, hl], by simp [takeU, hl], h1, h2, h3, h4, ?_⟩
    simp only [takeU, hl]
    exact left_set h2 h3
theorem take_none {u : List Bool} (h : left u = 0) : takeN u = 0 ∧ takeB u = false ∧ takeU u = u ∧ ∀ n : Nat, fr u (n : Int) = false := by
  cases hl : least u with
  | none => exact ⟨by simp [takeN, hl], by simp [takeB, hl], by simp [takeU, hl], least_none hl⟩
  | some n =>
    obtain ⟨h1, h2, h3, h4⟩ := least_is hl
    have := leftTo_pos h3 h2
    unfold left at h
    omega
theorem give_back {u : List Bool} {n : Nat} (h2 : 2 ≤ n) (h : n < u.length) (hf : fr u (n : Int) = true) : giveB (u.set n true) (n : Int) = true ∧ giveU (u.set n true) (n : Int) = u := by
  have hh : hs (u.set n true) (n : Int) = true := by rw [hs_set]; exact hs_true.2 ⟨by omega, by omega⟩
  have e : giveB (u.set n true) (n : Int) = true := by unfold giveB; rw [hh]; simp [h]
  refine ⟨e, ?_⟩
  unfold giveU
  rw [e, if_pos rfl, Int.toNat_natCast, List.set_set]
  rw [fr_of h2 h] at hf
  have hu : u[n] = false := by simpa using hf
  rw [← hu, List.set_getElem_self]
theorem left_all {u : List Bool} (h : ∀ j (hj : j < u.length), 2 ≤ j → u[j] = false) : ∀ k : Nat, k ≤ u.length → leftTo u k = k - 2
  | 0, _ => rfl
  | k + 1, hk => by
    rw [leftTo_succ, left_all h k (by omega)]
    by_cases h2 : 2 ≤ k
    · rw [fr_of h2 (by omega), h k (by omega) h2]
      simp
      omega
    · rw [fr_low (by omega)]
      simp
      omega
/-- Marked members are not free; what was not free before stays so. -/
theorem markAll_at : ∀ (l : List Int) (v : List Bool) (n : Nat), n < v.length → ((n : Int) ∈ l ∨ v.getD n false = true) → (markAll v l).getD n false = true
  | [], v, n, hn, h => by
    rcases h with h | h
    · simp at h
    · exact h
  | x :: r, v, n, hn, h => by
    refine markAll_at r (v.set x.toNat true) n (by simpa using hn) ?_
    rcases h with h | h
    · rcases List.mem_cons.1 h with h | h
      · right
        rw [← h, Int.toNat_natCast]
        simp [hn]
      · exact Or.inl h
    · right
      simp only [List.getD, List.getElem?_set]
      split
      · split
        · rfl
        · rename_i a b; exfalso; omega
      · simpa [List.getD] using h

/-! ### Rows of numbers -/
theorem infoInt : (Try.prog.info? 3).map (fun i => (i.zero, i.size, i.bytes)) = some (some (.int .i64 0), 1, 8) := by kernel_rfl
def icells (l : List Int) : List Value := l.map fun n => Value.int .i64 n
theorem icells_at {l : List Int} {i : Nat} (h : i < l.length) : (icells l)[i]? = some (.int .i64 l[i]) := by simp [icells, h]
def OwnI (w : World) (base : Nat) (v : Value) (l : List Int) : Prop := w.ownsRow base 3 1 v l.length (icells l)
theorem icells_one (l : List Int) : ∀ u ∈ icells l, u.oneCell' = true := by
  intro u hu
  obtain ⟨b, _, rfl⟩ := List.mem_map.1 hu
  rfl
/-- append(s, n) of owned numbers. -/
theorem appI {ops : Array Oper} {rest : List Oper} {o : Oper} {a : Act} {w : World} {Q : Exit → Act → World → Prop} (base : Nat) (s x : Operand) (v : Value) (l : List Int) (n : Int) (hgd : o.guard = none)
    (ho : o.op = .call { callee := .builtin .append, args := #[s, x], argTypes := #[27, 27] }) (hs : a.eval s = v) (g : Nat) (cx : Nat) (hx : a.eval x = .slice (some ⟨g, 0, none⟩) 1 cx)
    (O : OwnI w base v l) (X : w.cell? ⟨g, 0, none⟩ = some (.int .i64 n)) (hl : l.length < 1000000) (hb : base ≤ w.heap.size)
    (h : ∀ v' w', OwnI w' base v' (l ++ [n]) → w.grownBy w' v.ownBlock → wpList Try.prog ops Q rest (a.put o.dst v') w') :
    wpList Try.prog ops Q (o :: rest) a w := by
  obtain ⟨i0, hi, hz0, hz1, hz2⟩ := info_parts infoInt
  refine wpList_append_lies _ hgd s x 27 ho base 3 i0 (.int .i64 0) 1 8 Try.underlying27 hi hz0 hz1 hz2 rfl (by decide) v _ _ hs O ⟨g, 0, none⟩ 1 cx (icells [n]) hx rfl (fun j u hu => ?_) (icells_one _) (by decide) (by unfold maxLen; omega) (by omega) hb _ rfl ?_
  · match j, hu with
    | 0, hu =>
      simp only [icells, List.map_cons, List.map_nil, List.getElem?_cons_zero, Option.some.injEq] at hu
      rw [← hu]
      exact X
  · intro g' cap' w3 hown hgrow hat hlt
    refine h _ w3 ?_ hgrow
    unfold OwnI
    have e : icells (l ++ [n]) = icells l ++ icells [n] := by simp [icells]
    rw [List.length_append, e]
    exact hown
theorem OwnI.ints {w : World} {base : Nat} {v : Value} {l : List Int} (o : OwnI w base v l) : ∃ p c, v = .slice p l.length c ∧ Ints w p l ∧ ∀ b off, p = some ⟨b, off, none⟩ → base ≤ b := by
  obtain ⟨h1, h2⟩ := o
  rcases h2 with ⟨rfl, h0⟩ | ⟨g, cap, cur, rfl, hg, hh, hle, hm, hs, ht⟩
  · exact ⟨none, 0, by rw [h0], Or.inl (List.length_eq_zero_iff.1 h0), fun b off e => by cases e⟩
  · refine ⟨_, cap, rfl, Or.inr ⟨g, 0, rfl, fun i hi => ?_⟩, fun b off e => by cases e; exact hg⟩
    have hu := icells_at hi
    rw [← ht, List.getElem?_take, if_pos (by omega), Array.getElem?_toList] at hu
    simp [World.cell?, hh, hu]
theorem below_own {w0 w w' : World} {B : Nat} {v : Value} (hb : Below B w0 w) (hg : w.grownBy w' v.ownBlock) (hB : B ≤ w.heap.size) (hv : ∀ k, v.ownBlock = some k → B ≤ k) : Below B w0 w' := hb.grown hg hB hv
theorem umod_big (n m : Int) (h0 : 0 < m) (h1 : m ≤ 4611686018427387907) : 0 ≤ wrap64 ((IntKind.u64.wrap n).tmod m) ∧ wrap64 ((IntKind.u64.wrap n).tmod m) < m := by
  have hw : 0 ≤ IntKind.u64.wrap n := by
    have e : IntKind.u64.wrap n = n % 18446744073709551616 := by simp [IntKind.wrap, IntKind.bits, IntKind.signed]
    rw [e]; omega
  generalize IntKind.u64.wrap n = u at *
  have a1 := Int.tmod_lt_of_pos u h0
  have a2 : 0 ≤ u.tmod m := Int.tmod_nonneg m hw
  generalize u.tmod m = t at *
  have e : wrap64 t = t := by unfold wrap64; omega
  rw [e]
  exact ⟨a2, a1⟩
theorem umod_nat (n m : Int) (h0 : 0 < m) (h1 : m ≤ 4611686018427387907) : ∃ k : Nat, wrap64 ((IntKind.u64.wrap n).tmod m) = (k : Int) ∧ (k : Int) < m := by
  obtain ⟨a, b⟩ := umod_big n m h0 h1
  exact ⟨(wrap64 ((IntKind.u64.wrap n).tmod m)).toNat, by omega, by omega⟩
/-- What Only of right numbers makes. -/
theorem only_right {u : List Bool} {l : List Int} (h : ∀ x ∈ l, 2 ≤ x ∧ x < (u.length : Int)) : onlyE u l = 0 ∧ ∀ n : Nat, (n : Int) ∈ l → fr (onlyU u l) (n : Int) = false := by
  have ha : allHs u l = true := List.all_eq_true.2 fun x hx => hs_true.2 (h x hx)
  refine ⟨by simp [onlyE, ha], fun n hn => ?_⟩
  have hb := h _ hn
  have hg : (onlyU u l).getD n false = true := by
    unfold onlyU
    rw [if_pos ha]
    exact markAll_at l _ n (by simp; omega) (Or.inl hn)
  unfold fr
  rw [Int.toNat_natCast, hg]
  simp
end Go.Proofs.Ytehfbdhkicdfiaa
