/- What append does with bytes that the call owns; slices of bytes in memory; what lies apart from a block. Condition: they lie within the reach. -/
import Derived.Test.YtaoeonbhlpnjiaaOwnBytes
import Derived.Lib.AppendStr
import Derived.WalkSmall
import Derived.Deep.QuietTactic
import Derived.Laws.AppendOwnNone
namespace Go.Proofs.Ytaoeonbhlpnjiaa
open Go.RowKit Go.Lib Go.Sort
set_option linter.unusedVariables false

theorem past_append {wb : Nat} {v : Value} {w w1 w3 : World} {g cap n H : Nat} (B : Below w.heap.size w w1) (hg : w1.grownBy w3 v.ownBlock) (hat : v.ownBlock = some g ∨ g = H) (hH : w1.heap.size = H) : Past wb v (.slice (some ⟨g, 0, none⟩) n cap) w w3 :=
  ⟨hg.os.trans B.os, hg.tape.trans B.tape, hg.output.trans B.output, Nat.le_trans B.size hg.size,
   fun k hk _ ho => (hg.block k (Nat.lt_of_lt_of_le hk B.size) (fun e => ho e.symm)).trans (B.block k hk),
   fun k hk ho e => by
    simp only [Value.ownBlock, Option.some.injEq] at e
    subst e
    rcases hat with h | h
    · exact ho h
    · have := B.size
      omega⟩
theorem Past.put {wb o : Nat} {v v' x : Value} {w w' : World} (h : Past wb v v' w w') : Past wb v v' w (w'.setCell ⟨wb, o, none⟩ x) :=
  ⟨h.os, h.tape, h.output, by simpa [World.setCell] using h.size, fun k hk hn ho => (Below.heap_setCell _ _ _ _ hn).trans (h.block k hk hn ho), h.own⟩
theorem below_alloc_drew (w : World) (o : Obj) : Below w.heap.size w (w.alloc o).drew := ((Below.refl _ _).alloc (Nat.le_refl _) o).drew
theorem below_drew_alloc (w : World) (o : Obj) : Below w.heap.size w (w.drew.alloc o) := (Below.refl _ _).drew.alloc (Nat.le_refl _) o
theorem right_cases {a : Val} (h : a.right = true) : (a.k = 0 ∧ a.n = 0 ∧ a.s.data.toList = []) ∨ (a.k = 1 ∧ (a.n = 0 ∨ a.n = 1) ∧ a.s.data.toList = []) ∨ (a.k = 2 ∧ a.s.data.toList = []) ∨ (a.k = 3 ∧ a.n = 0) ∨ (a.k = 4 ∧ a.n = 0) := by
  unfold Val.right at h
  simp only [Bool.or_eq_true, Bool.and_eq_true, beq_iff_eq, List.isEmpty_iff] at h
  rcases h with ((⟨⟨h1, h2⟩, h3⟩ | ⟨⟨h1, h2⟩, h3⟩) | ⟨h1, h2⟩) | ⟨h1 | h1, h2⟩
  · exact Or.inl ⟨h1, h2, h3⟩
  · exact Or.inr (Or.inl ⟨h1, h2, h3⟩)
  · exact Or.inr (Or.inr (Or.inl ⟨h1, h2⟩))
  · exact Or.inr (Or.inr (Or.inr (Or.inl ⟨h1, h2⟩)))
  · exact Or.inr (Or.inr (Or.inr (Or.inr ⟨h1, h2⟩)))
theorem b0 : (((0 : UInt8).toNat : Nat) : Int) = 0 := rfl
theorem b1 : (((1 : UInt8).toNat : Nat) : Int) = 1 := rfl
theorem b2 : (((2 : UInt8).toNat : Nat) : Int) = 2 := rfl
theorem b3 : (((3 : UInt8).toNat : Nat) : Int) = 3 := rfl
theorem b4 : (((4 : UInt8).toNat : Nat) : Int) = 4 := rfl
theorem b5 : (((5 : UInt8).toNat : Nat) : Int) = 5 := rfl
theorem own_mono {w : World} {b b' : Nat} {v : Value} {l : List UInt8} (h : OwnB w b v l) (hb : b' ≤ b) : OwnB w b' v l := by
  obtain ⟨h1, h2⟩ := h
  refine ⟨h1, ?_⟩
  rcases h2 with h2 | ⟨g, cap, cur, hv, hg, r⟩
  · exact Or.inl h2
  · exact Or.inr ⟨g, cap, cur, hv, Nat.le_trans hb hg, r⟩
theorem checkV_right {a : Val} (h : a.right = true) : checkV a = 0 := by
  have : ¬ (a.k < 0 ∨ 4 < a.k) := by rcases right_cases h with h | h | h | h | h <;> omega
  rw [checkV_in this true h]; rfl
theorem checkV_wrong {a : Val} (h : a.right = false) : (checkV a != 0) = true := by
  by_cases hk : a.k < 0 ∨ 4 < a.k
  · rw [checkV_out hk]; rfl
  · rw [checkV_in hk false h]; rfl
theorem bcells_one (l : List UInt8) : ∀ u ∈ bcells l, u.oneCell' = true := by
  intro u hu
  obtain ⟨b, _, rfl⟩ := List.mem_map.1 hu
  rfl
theorem bcells_append (l m : List UInt8) : bcells l ++ bcells m = bcells (l ++ m) := by simp [bcells]

/-- Bytes that are written down. -/
theorem own_lits (w : World) (base : Nat) (hb : base ≤ w.heap.size) (m : List UInt8) (cs : Array Value) (hc : cs.toList = bcells m) (hm : m.length ≤ maxLen) : OwnB (w.alloc (.cells cs 5)) base (.slice (some ⟨w.heap.size, 0, none⟩) m.length m.length) m := by
  have hl : cs.size = m.length := by rw [← Array.length_toList, hc]; simp [bcells]
  refine ⟨by simp [bcells], Or.inr ⟨w.heap.size, m.length, cs, rfl, hb, heap_alloc_new w _, Nat.le_refl _, hm, by omega, ?_⟩⟩
  rw [hc, List.take_of_length_le (by simp [bcells])]

/-- append(s, x...) of owned bytes. -/
theorem appBs {ops : Array Oper} {rest : List Oper} {o : Oper} {a : Act} {w : World} {Q : Exit → Act → World → Prop} (base bx : Nat) (s x : Operand) (v vx : Value) (l m : List UInt8) (hgd : o.guard = none)
    (ho : o.op = .call { callee := .builtin .append, args := #[s, x], argTypes := #[24, 24] }) (hs : a.eval s = v) (hx : a.eval x = vx)
    (O : OwnB w base v l) (X : OwnB w bx vx m) (hm : 0 < m.length) (hl : l.length + m.length ≤ 140737488351232) (hb : base ≤ w.heap.size)
    (h : ∀ v' w', OwnB w' base v' (l ++ m) → (∀ wx, Past wx v v' w w') → Below base w w' → wpList Try.prog ops Q rest (a.put o.dst v') w') :
    wpList Try.prog ops Q (o :: rest) a w := by
  obtain ⟨i0, hi, hz0, hz1, hz2⟩ := info_parts infoByte
  obtain ⟨_, X2⟩ := X
  rcases X2 with ⟨_, h0⟩ | ⟨g, cap, cur, rfl, hg, hh, hle, hmx, hsz, ht⟩
  · omega
  refine wpList_append_lies _ hgd s x 24 ho base 5 i0 (.int .u8 0) 1 1 Try.underlying24 hi hz0 hz1 hz2 rfl (by decide) v _ _ hs O ⟨g, 0, none⟩ m.length cap (bcells m) hx (by simp [bcells]) ?_ (bcells_one m) hm (by unfold maxLen; omega) (by omega) hb _ rfl ?_
  · intro j u hu
    refine World.news_of_block hh j u ?_
    rw [← ht, List.getElem?_take] at hu
    split at hu
    · exact hu
    · cases hu
  · intro g' cap' w3 hown hgrow hat hlt
    rw [bcells_append] at hown
    have hown' : OwnB w3 base (.slice (some ⟨g', 0, none⟩) (l.length + m.length) cap') (l ++ m) := by
      unfold OwnB
      rw [List.length_append]
      exact hown
    have B0 : Below w.heap.size w w := Below.refl _ _
    refine h _ w3 hown' (fun wx => past_append B0 hgrow hat rfl) ((Below.refl base w).grown hgrow hb (fun k hk => (O.lt k hk).1))

/-- append(s, c) of owned bytes. -/
theorem appB {ops : Array Oper} {rest : List Oper} {o : Oper} {a : Act} {Q : Exit → Act → World → Prop} (w0 : World) (base g : Nat) (s x : Operand) (v : Value) (l : List UInt8) (c : UInt8) (n : Int) (hgd : o.guard = none)
    (ho : o.op = .call { callee := .builtin .append, args := #[s, x], argTypes := #[24, 24] }) (hs : a.eval s = v) (hx : a.eval x = .slice (some ⟨g, 0, none⟩) 1 1) (hg : g = w0.heap.size) (hn : (c.toNat : Int) = n)
    (O : OwnB w0 base v l) (hl : l.length + 1 ≤ 140737488351232) (hb : base ≤ w0.heap.size)
    (h : ∀ v' w', OwnB w' base v' (l ++ [c]) → (∀ wx, Past wx v v' w0 w') → Below base w0 w' → wpList Try.prog ops Q rest (a.put o.dst v') w') :
    wpList Try.prog ops Q (o :: rest) a (w0.alloc (.cells #[.int .u8 n] 5)) := by
  subst hg hn
  refine appBs base w0.heap.size s x v _ l [c] hgd ho hs hx (O.alloc _) (own_lits w0 _ (Nat.le_refl _) [c] _ (by simp [bcells]) (by unfold maxLen; simp)) (by simp) (by simpa using hl) (by simp; omega) ?_
  intro v' w' h1 h2 h3
  exact h v' w' h1 (fun wx => (Past.alloc wx v w0 _).trans (h2 wx)) (((Below.refl base w0).alloc hb _).trans h3)

/-- What lies apart from what a call may write stays owned. -/
theorem OwnB.below {w w' : World} {base : Nat} {v : Value} {l : List UInt8} (o : OwnB w base v l) (B : Below w.heap.size w w') : OwnB w' base v l := by
  obtain ⟨h1, h2⟩ := o
  refine ⟨h1, ?_⟩
  rcases h2 with h2 | ⟨g, cap, cur, hv, hg, hh, r⟩
  · exact Or.inl h2
  · exact Or.inr ⟨g, cap, cur, hv, hg, by rw [B.block g (Array.getElem?_eq_some_iff.1 hh).1]; exact hh, r⟩
/-- A slice of bytes in memory. -/
def Byts (w : World) (p : Option Addr) (l : List UInt8) : Prop :=
  l = [] ∨ ∃ b off, p = some ⟨b, off, none⟩ ∧ ∀ i (h : i < l.length), w.cell? ⟨b, off + i, none⟩ = some (.int .u8 (l[i].toNat : Int))
theorem Byts.below {w w' : World} {p : Option Addr} {l : List UInt8} (h : Byts w p l) (hb : Below w.heap.size w w') : Byts w' p l := by
  rcases h with h | ⟨b, off, hp, hc⟩
  · exact Or.inl h
  · exact Or.inr ⟨b, off, hp, fun i hi => below_cell hb (hc i hi)⟩
theorem Byts.at {w : World} {p : Option Addr} {l : List UInt8} (h : Byts w p l) {i : Nat} (hi : i < l.length) : ∃ b off, p = some ⟨b, off, none⟩ ∧ w.cell? ⟨b, off + i, none⟩ = some (.int .u8 (l[i].toNat : Int)) := by
  rcases h with h | ⟨b, off, hp, hc⟩
  · subst h; simp at hi
  · exact ⟨b, off, hp, hc i hi⟩
theorem Byts.of_own {w : World} {base : Nat} {v : Value} {l : List UInt8} (o : OwnB w base v l) : ∃ p c, v = .slice p l.length c ∧ Byts w p l ∧ (p = none → l.length = 0 ∧ c = 0) ∧ l.length ≤ maxLen := by
  obtain ⟨h1, h2⟩ := o
  rcases h2 with ⟨rfl, h0⟩ | ⟨g, cap, cur, rfl, hg, hh, hle, hm, hs, ht⟩
  · exact ⟨none, 0, by rw [h0], Or.inl (List.length_eq_zero_iff.1 h0), fun _ => ⟨h0, rfl⟩, by omega⟩
  · refine ⟨_, cap, rfl, Or.inr ⟨g, 0, rfl, fun i hi => ?_⟩, fun h => (by cases h), by omega⟩
    have hu : (bcells l)[i]? = some (.int .u8 l[i].toNat) := by simp [bcells, hi]
    rw [← ht, List.getElem?_take, if_pos (by omega), Array.getElem?_toList] at hu
    simp [World.cell?, hh, hu]
/-- string(b) of bytes in memory. -/
theorem conv_byts {w : World} {p : Option Addr} {l : List UInt8} (c : Nat) (h : Byts w p l) : (convert 24 9 (.slice p l.length c)).run Try.prog w = .ok (.string ⟨l.toArray⟩) w := by
  rcases h with rfl | ⟨b, off, rfl, hc⟩
  · have := run_convert_bytes_string (P := Try.prog) w 24 9 5 p 0 c Try.underlying24 Try.underlying5 Try.underlying9
    simp only [List.length_nil]
    rw [this]
    cases p <;> rfl
  · refine run_convert_bytes_back (P := Try.prog) w 24 9 5 ⟨b, off, none⟩ c l Try.underlying24 Try.underlying5 Try.underlying9 (fun j hj => ?_)
    rw [show (⟨b, off, none⟩ : Addr).add j = ⟨b, off + j, none⟩ by unfold Addr.add; split <;> simp_all]
    exact hc j hj
def nilB : Value := .slice none 0 0
/-- Nothing but a block was written. -/
def Only (rb : Nat) (w w' : World) : Prop := Past rb nilB nilB w w'
theorem Only.refl (rb : Nat) (w : World) : Only rb w w := Past.refl _ _ _
theorem Only.trans {rb : Nat} {a b c : World} (h : Only rb a b) (k : Only rb b c) : Only rb a c := Past.trans h k
theorem Only.cell {rb : Nat} {w w' : World} (h : Only rb w w') {b o : Nat} {x : Value} (hc : w.cell? ⟨b, o, none⟩ = some x) (hn : b ≠ rb) : w'.cell? ⟨b, o, none⟩ = some x := Past.cell h hc hn (by simp [nilB, Value.ownBlock])
theorem Only.below {rb : Nat} {w w' : World} (h : Only rb w w') (hw : rb ≤ w.heap.size) : Below rb w w' := Past.below h hw (by simp [nilB, Value.ownBlock])
theorem only_set (w : World) (rb n : Nat) (x : Value) : Only rb w ((w.drewN n).setCell ⟨rb, 0, none⟩ x) :=
  Past.put ⟨rfl, rfl, rfl, Nat.le_refl _, fun _ _ _ _ => rfl, fun _ _ h => h⟩
theorem Only.then {rb : Nat} {w a b : World} (h : Only rb w a) (B : Below w.heap.size a b) : Only rb w b :=
  ⟨B.os.trans h.os, B.tape.trans h.tape, B.output.trans h.output, Nat.le_trans h.size B.size, fun k hk hn ho => (B.block k hk).trans (h.block k hk hn ho), fun _ _ h => h⟩
theorem OwnB.only {rb base : Nat} {w w' : World} {v : Value} {l : List UInt8} (o : OwnB w base v l) (h : Only rb w w') (hb : rb < base) : OwnB w' base v l := by
  obtain ⟨h1, h2⟩ := o
  refine ⟨h1, ?_⟩
  rcases h2 with h2 | ⟨g, cap, cur, hv, hg, hh, r⟩
  · exact Or.inl h2
  · exact Or.inr ⟨g, cap, cur, hv, hg, by rw [h.block g (Array.getElem?_eq_some_iff.1 hh).1 (by omega) (by simp [nilB, Value.ownBlock])]; exact hh, r⟩
def sliceLen : Value → Nat
  | .slice _ n _ => n
  | _ => 0
theorem own_len {w : World} {base : Nat} {v : Value} {l : List UInt8} (o : OwnB w base v l) : sliceLen v = l.length := by
  obtain ⟨p, c, rfl, _⟩ := Byts.of_own o
  rfl
theorem own_cap {w : World} {base : Nat} {p : Option Addr} {n c : Nat} {l : List UInt8} (o : OwnB w base (.slice p n c) l) : l.length ≤ c := by
  obtain ⟨_, h2⟩ := o
  rcases h2 with ⟨h0, hn⟩ | ⟨g, cap, cur, hg, _, _, hle, _⟩
  · omega
  · simp only [Value.slice.injEq] at hg
    omega
theorem own_parts {w : World} {base : Nat} {v : Value} {l : List UInt8} (o : OwnB w base v l) (hl : l ≠ []) :
    ∃ g cap, v = .slice (some ⟨g, 0, none⟩) l.length cap ∧ base ≤ g ∧ l.length ≤ cap ∧ (∀ i (h : i < l.length), w.cell? ⟨g, i, none⟩ = some (.int .u8 (l[i].toNat : Int)) ∧ w.frozen? ⟨g, i, none⟩ = false) ∧
      (∀ i c, OwnB (w.setCell ⟨g, i, none⟩ (.int .u8 (c.toNat : Int))) base v (l.set i c)) := by
  obtain ⟨h1, h2⟩ := o
  rcases h2 with ⟨_, h0⟩ | ⟨g, cap, cur, rfl, hg, hh, hle, hm, hs, ht⟩
  · exact absurd (List.length_eq_zero_iff.1 h0) hl
  · refine ⟨g, cap, rfl, hg, hle, fun i hi => ⟨?_, ?_⟩, fun i c => ?_⟩
    · have hu : (bcells l)[i]? = some (.int .u8 l[i].toNat) := by simp [bcells, hi]
      rw [← ht, List.getElem?_take, if_pos (by omega), Array.getElem?_toList] at hu
      simp [World.cell?, hh, hu]
    · simp [World.frozen?, hh]
    · have hlen : (l.set i c).length = l.length := List.length_set
      refine ⟨by simp [bcells], Or.inr ⟨g, cap, _, by rw [hlen], hg, heap_setCell_same w g i cur 5 _ hh, by rw [hlen]; exact hle, hm, by simpa using hs, ?_⟩⟩
      rw [hlen, Array.toList_setIfInBounds, List.take_set, ht]
      simp [bcells, List.map_set]
theorem Byts.take {w : World} {p : Option Addr} {l : List UInt8} (h : Byts w p l) (k : Nat) : Byts w p (l.take k) := by
  rcases h with h | ⟨b, off, hp, hc⟩
  · left; rw [h]; simp
  · refine Or.inr ⟨b, off, hp, fun i hi => ?_⟩
    have hi' : i < l.length := by simp at hi; omega
    rw [List.getElem_take]
    exact hc i hi'
theorem Byts.drop {w : World} {b off : Nat} {l : List UInt8} (h : Byts w (some ⟨b, off, none⟩) l) (k : Nat) : Byts w (some ⟨b, off + k, none⟩) (l.drop k) := by
  rcases h with h | ⟨b', off', hp, hc⟩
  · left; rw [h]; simp
  · simp only [Option.some.injEq, Addr.mk.injEq, and_true] at hp
    obtain ⟨rfl, rfl⟩ := hp
    refine Or.inr ⟨b, off + k, rfl, fun i hi => ?_⟩
    have hi' : k + i < l.length := by simp at hi; omega
    rw [List.getElem_drop, Nat.add_assoc]
    exact hc (k + i) hi'

/-- append(s, t...) of owned bytes and a text: where the row lies. -/
theorem run_append_lies_string {P : Program} (w : World) (base : Nat) (t u ty e : TypeId) (i : TypeInfo) (ht : P.underlying t = some (.slice e)) (hu : P.underlying u = some .string) (hi : P.info? e = some i) (hz : i.zero = some (.int .u8 0))
    (hsize : i.size = 1) (hby : i.bytes = 1)
    (v : Value) (n : Nat) (xs : List Value) (hown : w.ownsRow base e 1 v n xs) (s : ByteArray)
    (h63 : n + s.size ≤ maxLen) (hbytes : n + s.size ≤ 140737488355328) (hbase : base ≤ w.heap.size) :
    ∃ v' w', (Builtin.append_ #[t, u] ty #[v, .string s]).run P w = .ok v' w' ∧ w'.ownsRow base e 1 v' (n + s.size) (xs ++ strCells s) ∧ w.grownBy w' v.ownBlock ∧ (v'.ownBlock = v.ownBlock ∨ v'.ownBlock = some w.heap.size) := by
  have key := run_append_own_string (P := P) w base t u ty e i ht hu hi hz hsize hby v n xs hown s h63 hbytes hbase
  obtain ⟨v', w', hr, h2, h3, h4⟩ := key
  refine ⟨v', w', hr, h2, h3, ?_⟩
  have hxl : xs.length = n := by simpa using hown.1
  have hsmall : n + s.size ≤ 9223372036854775807 := by simp only [maxLen] at h63; omega
  rcases hown.2 with ⟨rfl, rfl⟩ | ⟨g, cap, cur, rfl, hbg, hg, hnc, hcm, hcs, htake⟩
  · by_cases hm : s.size = 0
    · left
      rw [h4.2 ⟨rfl, hm⟩]
    · have hr2 := run_append_nil_string (P := P) w t u ty e i (.int .u8 0) ht hu hi hz s (by omega) (by omega) (by rw [hby]; omega)
      rw [hr2] at hr
      injection hr with e1 e2
      right
      rw [← e1]
      rfl
  · by_cases hroom : n + s.size ≤ cap
    · have hcs' : cur.size = cap := by simpa using hcs
      have hr2 := run_append_room_string (P := P) w t u ty e i ht hu hi hsize g n cap cur hg s hroom (by omega)
      rw [hr2] at hr
      injection hr with e1 e2
      left
      rw [← e1]
      rfl
    · have holds : ∀ j u, xs[j]? = some u → w.cell? ((⟨g, 0, none⟩ : Addr).add j) = some u := World.ownsRow.cells (g := g) hown rfl
      have hr2 := run_append_grow_string (P := P) w t u ty e i (.int .u8 0) ht hu hi hz ⟨g, 0, none⟩ n cap xs (by rw [hsize]; simpa using hxl) holds s (by omega) (by omega) (by rw [hby]; exact growslice_fits (by omega) (by omega))
      rw [hr2] at hr
      injection hr with e1 e2
      right
      rw [← e1]
      rfl
theorem past_append' {wb : Nat} {v v' : Value} {w w1 w3 : World} (B : Below w.heap.size w w1) (hg : w1.grownBy w3 v.ownBlock) (hat : v'.ownBlock = v.ownBlock ∨ v'.ownBlock = some w1.heap.size) : Past wb v v' w w3 :=
  ⟨hg.os.trans B.os, hg.tape.trans B.tape, hg.output.trans B.output, Nat.le_trans B.size hg.size,
   fun k hk _ ho => (hg.block k (Nat.lt_of_lt_of_le hk B.size) (fun e => ho e.symm)).trans (B.block k hk),
   fun k hk ho e => by
    rcases hat with h | h
    · exact ho (h.symm.trans e)
    · rw [h] at e
      have := B.size
      simp only [Option.some.injEq] at e
      omega⟩
theorem strCells_b (s : ByteArray) : strCells s = bcells s.data.toList := rfl
theorem own_str {w : World} {base : Nat} {v : Value} {l : List UInt8} {s : ByteArray} (h : w.ownsRow base 5 1 v (l.length + s.size) (bcells l ++ strCells s)) : OwnB w base v (l ++ s.data.toList) := by
  unfold OwnB
  rw [strCells_b, bcells_append] at h
  have e : (l ++ s.data.toList).length = l.length + s.size := by simp
  rw [e]
  exact h
/-- At the operation. -/
theorem wp_append_str {o : Oper} {a : Act} {w : World} {K : Act → World → Prop} {Q : Exit → Act → World → Prop} (base : Nat) (sl x : Operand) (v : Value) (l : List UInt8) (s : ByteArray)
    (ho : o.op = .call { callee := .builtin .append, args := #[sl, x], argTypes := #[24, 9] }) (hs : a.eval sl = v) (hx : a.eval x = .string s)
    (O : OwnB w base v l) (hl : l.length + s.size ≤ 140737488351232) (hb : base ≤ w.heap.size)
    (h : ∀ v' w', OwnB w' base v' (l ++ s.data.toList) → w.grownBy w' v.ownBlock → (v'.ownBlock = v.ownBlock ∨ v'.ownBlock = some w.heap.size) → K (a.put o.dst v') w') : o.wp Try.prog a w K Q := by
  obtain ⟨i0, hi, hz0, hz1, hz2⟩ := info_parts infoByte
  obtain ⟨v', w', hr, h2, h3, h4⟩ := run_append_lies_string (P := Try.prog) w base 24 9 o.type 5 i0 Try.underlying24 Try.underlying9 hi hz0 hz1 hz2 v _ _ O s (by unfold maxLen; omega) (by omega) hb
  unfold Oper.wp execOp
  simp only [ho, resolve, invoke, builtin, Sem.run_bind, Sem.run_pure, Result.andThen_ok, List.map_toArray, List.map_cons, List.map_nil, hs, hx, hr]
  exact h v' w' (own_str h2) h3 h4
/-- append(s, t...) in a plain region. -/
theorem appS {ops : Array Oper} {rest : List Oper} {o : Oper} {a : Act} {w : World} {Q : Exit → Act → World → Prop} (base : Nat) (sl x : Operand) (v : Value) (l : List UInt8) (s : ByteArray) (hgd : o.guard = none)
    (ho : o.op = .call { callee := .builtin .append, args := #[sl, x], argTypes := #[24, 9] }) (hs : a.eval sl = v) (hx : a.eval x = .string s)
    (O : OwnB w base v l) (hl : l.length + s.size ≤ 140737488351232) (hb : base ≤ w.heap.size)
    (h : ∀ v' w', OwnB w' base v' (l ++ s.data.toList) → (∀ wx, Past wx v v' w w') → Below base w w' → wpList Try.prog ops Q rest (a.put o.dst v') w') :
    wpList Try.prog ops Q (o :: rest) a w :=
  wpList_plain hgd fun K hK => wp_append_str base sl x v l s ho hs hx O hl hb fun v' w' h2 h3 h4 => hK _ _ (h v' w' h2 (fun wx => past_append' (Below.refl _ _) h3 h4) ((Below.refl base w).grown h3 hb (fun k hk => (O.lt k hk).1)))
/-- At a step of a region that draws its order. -/
theorem step_append_str {ops : Array Oper} {o : Oper} {a : Act} {w : World} {K : Act → World → Prop} {Q : Exit → Act → World → Prop} {E : Prop} (base : Nat) (sl x : Operand) (v : Value) (l : List UInt8) (s : ByteArray) (hgd : o.guard = none)
    (ho : o.op = .call { callee := .builtin .append, args := #[sl, x], argTypes := #[24, 9] }) (hs : a.eval sl = v) (hx : a.eval x = .string s)
    (O : OwnB w base v l) (hl : l.length + s.size ≤ 140737488351232) (hb : base ≤ w.heap.size)
    (h : ∀ v' w', OwnB w' base v' (l ++ s.data.toList) → w.grownBy w' v.ownBlock → (v'.ownBlock = v.ownBlock ∨ v'.ownBlock = some w.heap.size) → K (a.put o.dst v') w') :
    if Region.wanted o (yielded ops a.tmps) = true then Oper.wp Try.prog o a w K Q else E := by
  have hw : Region.wanted o (yielded ops a.tmps) = true := by simp [Region.wanted, hgd]
  rw [if_pos hw]
  exact wp_append_str base sl x v l s ho hs hx O hl hb h
/-- append(s, x...) of owned bytes, at a step of a region that draws its order. -/
theorem stepBs {ops : Array Oper} {o : Oper} {a : Act} {w : World} {K : Act → World → Prop} {Q : Exit → Act → World → Prop} {E : Prop} (base bx : Nat) (s x : Operand) (v vx : Value) (l m : List UInt8) (hgd : o.guard = none)
    (ho : o.op = .call { callee := .builtin .append, args := #[s, x], argTypes := #[24, 24] }) (hs : a.eval s = v) (hx : a.eval x = vx)
    (O : OwnB w base v l) (X : OwnB w bx vx m) (hm : 0 < m.length) (hl : l.length + m.length ≤ 140737488351232) (hb : base ≤ w.heap.size)
    (h : ∀ v' w', OwnB w' base v' (l ++ m) → (∀ wx, Past wx v v' w w') → Below base w w' → K (a.put o.dst v') w') :
    if Region.wanted o (yielded ops a.tmps) = true then Oper.wp Try.prog o a w K Q else E := by
  obtain ⟨i0, hi, hz0, hz1, hz2⟩ := info_parts infoByte
  obtain ⟨_, X2⟩ := X
  rcases X2 with ⟨_, h0⟩ | ⟨g, cap, cur, rfl, hg, hh, hle, hmx, hsz, ht⟩
  · omega
  refine step_append_lies _ hgd s x 24 ho base 5 i0 (.int .u8 0) 1 1 Try.underlying24 hi hz0 hz1 hz2 rfl (by decide) v _ _ hs O ⟨g, 0, none⟩ m.length cap (bcells m) hx (by simp [bcells]) ?_ (bcells_one m) hm (by unfold maxLen; omega) (by omega) hb _ rfl ?_
  · intro j u hu
    refine World.news_of_block hh j u ?_
    rw [← ht, List.getElem?_take] at hu
    split at hu
    · exact hu
    · cases hu
  · intro g' cap' w3 hown hgrow hat hlt
    rw [bcells_append] at hown
    have hown' : OwnB w3 base (.slice (some ⟨g', 0, none⟩) (l.length + m.length) cap') (l ++ m) := by
      unfold OwnB
      rw [List.length_append]
      exact hown
    have B0 : Below w.heap.size w w := Below.refl _ _
    refine h _ w3 hown' (fun wx => past_append B0 hgrow hat rfl) ((Below.refl base w).grown hgrow hb (fun k hk => (O.lt k hk).1))
theorem step_str {ops : Array Oper} {o : Oper} {a : Act} {w : World} {K : Act → World → Prop} {Q : Exit → Act → World → Prop} {E : Prop} (base : Nat) (sl x : Operand) (v : Value) (l : List UInt8) (s : ByteArray) (hgd : o.guard = none)
    (ho : o.op = .call { callee := .builtin .append, args := #[sl, x], argTypes := #[24, 9] }) (hs : a.eval sl = v) (hx : a.eval x = .string s)
    (O : OwnB w base v l) (hl : l.length + s.size ≤ 140737488351232) (hb : base ≤ w.heap.size)
    (h : ∀ v' w', OwnB w' base v' (l ++ s.data.toList) → (∀ wx, Past wx v v' w w') → Below base w w' → K (a.put o.dst v') w') :
    if Region.wanted o (yielded ops a.tmps) = true then Oper.wp Try.prog o a w K Q else E :=
  step_append_str base sl x v l s hgd ho hs hx O hl hb fun v' w' h2 h3 h4 => h v' w' h2 (fun wx => past_append' (Below.refl _ _) h3 h4) ((Below.refl base w).grown h3 hb (fun k hk => (O.lt k hk).1))
theorem below_drew (w : World) : Below w.heap.size w w.drew := (Below.refl _ _).drew
theorem OwnB.drew {w : World} {base : Nat} {v : Value} {l : List UInt8} (h : OwnB w base v l) : OwnB w.drew base v l := h.below (below_drew w)
end Go.Proofs.Ytaoeonbhlpnjiaa
