/- What the builder of package expr's writer does: its bytes grow by texts, and are read. Conditions: its bytes lie within the reach. What text of package expr's writer does: texts are written one behind the other. Conditions: the bytes lie within the reach. -/
import Derived.Test.YtblkhlhhlalbkaaGreatDoorLC
import Derived.Test.YtblkhlhhlalbkaaGreatDoorEB
import Derived.Lib.AppendStr
import Derived.Lib.UnsafeStr
import Derived.Lib.Strings
import Derived.Test.YtblkhlhhlalbkaaGreatDoorXA
namespace Go.Proofs.YtblkhlhhlalbkaaGreatDoor
open Go.RowKit Go.Lib Go.Sort
set_option linter.unusedVariables false
set_option maxRecDepth 20000

theorem wrLies : liesAt Tryz.prog Tryz.prog.depth 122 (2 / Tryz.prog.cellsOf 122) 0 120 1 = true := by kernel_rfl
set_option maxHeartbeats 1000000 in
theorem wrFresh (b : Nat) (w : World) (h0 : w.cell? ⟨b, 0, none⟩ = some (.pointer none)) (hsh : w.shape? b = some (122, 2)) (hfz : w.frozen? ⟨b, 0, none⟩ = false) :
    Calls Tryz.prog 170 #[.pointer (some ⟨b, 0, none⟩)] w fun e w' => e = .returned (.tuple #[]) ∧ w' = w.setCell ⟨b, 0, none⟩ (.pointer (some ⟨b, 0, none⟩)) := by
  obtain ⟨j, hj, hjs⟩ := Option.map_eq_some_iff.1 bldSize
  go_enter Tryz.func170, Tryz.ntmps170
  go_wp2
  rw [Lib.run_to_unsafe w ⟨b, 0, none⟩ Tryz.underlying118 Tryz.underlying195 hj (by rw [hjs]; decide) hsh (Nat.zero_lt_succ 1)]
  simp only [Result.andThen]
  rw [Oper.upon_value]
  go_wp2
  rw [run_callFunc_extern Tryz.func192 (by kernel_rfl) (by kernel_rfl) (by kernel_rfl) (e := Extern.AbiNoEscape.same) (by kernel_rfl)]
  rw [Lib.run_noEscape]
  simp only [Result.andThen]
  rw [Oper.upon_value]
  go_wp2
  rw [Lib.run_from_unsafe w ⟨b, 0, none⟩ Tryz.underlying195 Tryz.underlying118 hj hsh wrLies]
  simp only [Result.andThen]
  rw [Oper.upon_value]
  go_wp2
  go_end0
  exact ⟨rfl, rfl⟩
/-- append(s, t...) of owned bytes and a text: where the row lies. -/
theorem run_append_lies_string {P : Program} (w : World) (base : Nat) (t u ty e : TypeId) (i : TypeInfo) (ht : P.underlying t = some (.slice e)) (hu : P.underlying u = some .string) (hi : P.info? e = some i) (hz : i.zero = some (.int .u8 0))
    (hsize : i.size = 1) (hby : i.bytes = 1)
    (v : Value) (n : Nat) (xs : List Value) (hown : w.ownsRow base e 1 v n xs) (s : ByteArray)
    (h63 : n + s.size ≤ maxLen) (hbytes : n + s.size ≤ 140737488355328) (hbase : base ≤ w.heap.size) :
    ∃ v' w', (Builtin.append_ #[t, u] ty #[v, .string s]).run P w = .ok v' w' ∧ w'.ownsRow base e 1 v' (n + s.size) (xs ++ strCells s) ∧ w.grownBy w' v.ownBlock ∧ (v'.ownBlock = v.ownBlock ∨ v'.ownBlock = some w.heap.size) := by
  have key := run_append_own_string (P := P) w base t u ty e i ht hu hi hz hsize hby v n xs hown s h63 hbytes hbase
  obtain ⟨v', w', hr, h2, h3, h4⟩ := key
  refine ⟨v', w', hr, h2, h3, ?_⟩
  have hxl : xs.length = n := by simpa using hown.1
  have hsmall : n + s.size ≤ 9223372036854775807 := by simp only [maxLen] at h63; omega
  rcases hown.2 with ⟨rfl, rfl⟩ | ⟨g, cap, cur, rfl, hbg, hg, hnc, hcm, hcs, htake⟩
  · by_cases hm : s.size = 0
    · left
      rw [h4.2 ⟨rfl, hm⟩]
    · have hr2 := run_append_nil_string (P := P) w t u ty e i (.int .u8 0) ht hu hi hz s (by omega) (by omega) (by rw [hby]; omega)
      rw [hr2] at hr
      injection hr with e1 e2
      right
      rw [← e1]
      rfl
  · by_cases hroom : n + s.size ≤ cap
    · have hcs' : cur.size = cap := by simpa using hcs
      have hr2 := run_append_room_string (P := P) w t u ty e i ht hu hi hsize g n cap cur hg s hroom (by omega)
      rw [hr2] at hr
      injection hr with e1 e2
      left
      rw [← e1]
      rfl
    · have holds : ∀ j u, xs[j]? = some u → w.cell? ((⟨g, 0, none⟩ : Addr).add j) = some u := World.ownsRow.cells (g := g) hown rfl
      have hr2 := run_append_grow_string (P := P) w t u ty e i (.int .u8 0) ht hu hi hz ⟨g, 0, none⟩ n cap xs (by rw [hsize]; simpa using hxl) holds s (by omega) (by omega) (by rw [hby]; exact growslice_fits (by omega) (by omega))
      rw [hr2] at hr
      injection hr with e1 e2
      right
      rw [← e1]
      rfl
theorem bcells_app (l m : List UInt8) : bcells l ++ bcells m = bcells (l ++ m) := by simp [bcells]
theorem lb_str {w : World} {base : Nat} {v : Value} {l s : List UInt8} (h : w.ownsRow base 5 1 v (l.length + (⟨s.toArray⟩ : ByteArray).size) (bcells l ++ strCells ⟨s.toArray⟩)) : LB w base v (l ++ s) := by
  unfold LB
  have e1 : strCells ⟨s.toArray⟩ = bcells s := rfl
  have e2 : (⟨s.toArray⟩ : ByteArray).size = s.length := rfl
  rw [e1, e2, bcells_app] at h
  rw [List.length_append]
  exact h
/-- append(s, t...) of owned bytes and a text, at the operation. -/
theorem wp_app_text {o : Oper} {a : Act} {w : World} {K : Act → World → Prop} {Q : Exit → Act → World → Prop} (sl x : Operand) (v : Value) (l s : List UInt8)
    (ho : o.op = .call { callee := .builtin .append, args := #[sl, x], argTypes := #[93, 9] }) (hs : a.eval sl = v) (hx : a.eval x = .string ⟨s.toArray⟩)
    (O : LB w 0 v l) (hl : l.length + s.length ≤ 140737488351232)
    (h : ∀ v' w', LB w' 0 v' (l ++ s) → w.grownBy w' v.ownBlock → (v'.ownBlock = v.ownBlock ∨ v'.ownBlock = some w.heap.size) → K (a.put o.dst v') w') : o.wp Tryz.prog a w K Q := by
  obtain ⟨i0, hi, hz0, hz1, hz2⟩ := info_parts infoB
  have e2 : (⟨s.toArray⟩ : ByteArray).size = s.length := rfl
  obtain ⟨v', w', hr, h2, h3, h4⟩ := run_append_lies_string (P := Tryz.prog) w 0 93 9 o.type 5 i0 Tryz.underlying93 Tryz.underlying9 hi hz0 hz1 hz2 v _ _ O ⟨s.toArray⟩ (by rw [e2]; unfold maxLen; omega) (by rw [e2]; omega) (Nat.zero_le _)
  unfold Oper.wp execOp
  simp only [ho, resolve, invoke, builtin, Sem.run_bind, Sem.run_pure, Result.andThen_ok, List.map_toArray, List.map_cons, List.map_nil, hs, hx, hr]
  exact h v' w' (lb_str h2) h3 h4
theorem appText {ops : Array Oper} {rest : List Oper} {o : Oper} {a : Act} {w : World} {Q : Exit → Act → World → Prop} (sl x : Operand) (v : Value) (l s : List UInt8) (hgd : o.guard = none)
    (ho : o.op = .call { callee := .builtin .append, args := #[sl, x], argTypes := #[93, 9] }) (hs : a.eval sl = v) (hx : a.eval x = .string ⟨s.toArray⟩)
    (O : LB w 0 v l) (hl : l.length + s.length ≤ 140737488351232)
    (h : ∀ v' w', LB w' 0 v' (l ++ s) → w.grownBy w' v.ownBlock → (v'.ownBlock = v.ownBlock ∨ v'.ownBlock = some w.heap.size) → wpList Tryz.prog ops Q rest (a.put o.dst v') w') : wpList Tryz.prog ops Q (o :: rest) a w :=
  wpList_plain hgd fun K hK => wp_app_text sl x v l s ho hs hx O hl fun v' w' h2 h3 h4 => hK _ _ (h v' w' h2 h3 h4)
/-- A writer at a block, with its bytes; what it owns lies in a set of blocks. -/
def WF (F : Nat → Prop) (b : Nat) (l : List UInt8) (w : World) : Prop :=
  F b ∧ ∃ p v, w.heap[b]? = some (.cells #[p, v] 122 (0, 0)) ∧ (p = .pointer none ∨ p = .pointer (some ⟨b, 0, none⟩)) ∧ LB w 0 v l ∧ v.ownBlock ≠ some b ∧ ∀ g, v.ownBlock = some g → F g
theorem WF.lt {F : Nat → Prop} {b : Nat} {l : List UInt8} {w : World} (h : WF F b l w) : b < w.heap.size := by
  obtain ⟨_, p, v, hb, _⟩ := h
  exact (Array.getElem?_eq_some_iff.1 hb).1
theorem lb_chg {G : Nat → Prop} {w w' : World} {v : Value} {l : List UInt8} (h : LB w 0 v l) (C : Chg G w w') (hn : ∀ g, v.ownBlock = some g → ¬ G g) : LB w' 0 v l := by
  obtain ⟨h1, h2⟩ := h
  refine ⟨h1, ?_⟩
  rcases h2 with h2 | ⟨g, cap, cur, hv, hg, hh, r⟩
  · exact Or.inl h2
  · exact Or.inr ⟨g, cap, cur, hv, hg, (C.block g (Array.getElem?_eq_some_iff.1 hh).1 (hn g (by rw [hv]; rfl))).trans hh, r⟩
theorem WF.chg {F G : Nat → Prop} {b : Nat} {l : List UInt8} {w w' : World} (h : WF F b l w) (C : Chg G w w') (hG : ∀ k, F k → ¬ G k) : WF F b l w' := by
  have hl := h.lt
  obtain ⟨h0, p, v, hb, hp, hL, hne, hF⟩ := h
  exact ⟨h0, p, v, (C.block b hl (hG b h0)).trans hb, hp, lb_chg hL C (fun g hg => hG g (hF g hg)), hne, hF⟩
theorem WF.below {F : Nat → Prop} {b : Nat} {l : List UInt8} {w w' : World} (h : WF F b l w) (B : Below w.heap.size w w') : WF F b l w' :=
  h.chg (G := fun _ => False) (Chg.of_below B) (fun _ _ q => q)
theorem WF.mono {F G : Nat → Prop} {b : Nat} {l : List UInt8} {w : World} (h : WF F b l w) (hG : ∀ k, F k → G k) : WF G b l w := by
  obtain ⟨h0, p, v, hb, hp, hL, hne, hF⟩ := h
  exact ⟨hG b h0, p, v, hb, hp, hL, hne, fun g hg => hG g (hF g hg)⟩
theorem wf_new (w : World) : WF (· = w.heap.size) w.heap.size [] (w.alloc (.cells #[.pointer none, .slice none 0 0] 122)) :=
  ⟨rfl, .pointer none, .slice none 0 0, heap_alloc_new w _, Or.inl rfl, lb_nil _ 0, by simp [Value.ownBlock], fun g hg => by simp [Value.ownBlock] at hg⟩
/-- What a call that writes leaves. -/
def WrE (F : Nat → Prop) (b : Nat) (l : List UInt8) (w : World) (w' : World) : Prop := WF (fun k => F k ∨ (w.heap.size ≤ k ∧ k < w'.heap.size)) b l w' ∧ Chg F w w'

theorem wrCheck {F : Nat → Prop} {b : Nat} {l : List UInt8} {w : World} (h : WF F b l w) :
    Calls Tryz.prog 170 #[.pointer (some ⟨b, 0, none⟩)] w fun e w' => e = .returned (.tuple #[]) ∧ Chg F w w' ∧ w'.heap.size = w.heap.size ∧ ∃ v, w'.heap[b]? = some (.cells #[.pointer (some ⟨b, 0, none⟩), v] 122 (0, 0)) ∧ LB w' 0 v l ∧ v.ownBlock ≠ some b ∧ ∀ g, v.ownBlock = some g → F g := by
  obtain ⟨h0, p, v, hb, hp, hL, hne, hF⟩ := h
  have c0 : w.cell? ⟨b, 0, none⟩ = some p := by rw [Lib.cell_of_heap hb]; rfl
  have f0 : w.frozen? ⟨b, 0, none⟩ = false := Lib.frozen_of_heap hb 0
  have hsh : w.shape? b = some (122, 2) := by simp [World.shape?, hb]
  rcases hp with rfl | rfl
  · refine (wrFresh b w c0 hsh f0).mono ?_
    rintro e w' ⟨rfl, rfl⟩
    have C : Chg (· = b) w (w.setCell ⟨b, 0, none⟩ (.pointer (some ⟨b, 0, none⟩))) := Chg.setCell (F := (· = b)) (p := ⟨b, 0, none⟩) (Chg.refl _ _) (Or.inl rfl) _
    refine ⟨rfl, C.mono (fun k _ q => by rw [q]; exact h0), by simp [World.setCell], v, ?_, lb_chg hL C (fun g hg q => hne (by rw [hg, q])), hne, hF⟩
    simp [World.setCell, Array.getElem?_modify, hb]
  · refine (bldUsed b w c0).mono ?_
    rintro e w' ⟨rfl, rfl⟩
    exact ⟨rfl, Chg.refl _ _, rfl, v, hb, hL, hne, hF⟩
set_option maxHeartbeats 2000000 in
theorem wrText {F : Nat → Prop} {b : Nat} {l : List UInt8} {w : World} (s : List UInt8) (h : WF F b l w) (hlen : l.length + s.length ≤ 140737488351232) :
    Calls Tryz.prog 149 #[.pointer (some ⟨b, 0, none⟩), .string ⟨s.toArray⟩] w fun e w' => (∃ n, e = .returned (.tuple #[.int .i64 n, .nilIface])) ∧ WrE F b (l ++ s) w w' := by
  have C := hid (wrCheck h)
  have hF0 := h.1
  have hlt := h.lt
  have hsl : (⟨s.toArray⟩ : ByteArray).size = s.length := rfl
  clear h
  go_enter Tryz.func149, Tryz.ntmps149
  go_wp2_with (go_at_call 170; refine C.out.mono ?_)
  rintro e w1 ⟨rfl, c1, hs1, v, hbk, hL, hne, hF⟩
  have d0 : w1.cell? ⟨b, 1, none⟩ = some v := by rw [Lib.cell_of_heap hbk]; rfl
  have HC1 := hid c1
  have HL1 := hid hL
  have HB1 := hid hbk
  clear c1 hL C
  go_wp2_with (at_builtin; refine appText _ _ v l s rfl rfl rfl rfl HL1.out hlen ?_)
  intro v' w2 hL2 hg hat
  have C2 : Chg F w1 w2 := (Chg.refl F w1).grown hg (fun k hk => Or.inl (hF k hk))
  have hb2 : w2.heap[b]? = some (.cells #[.pointer (some ⟨b, 0, none⟩), v] 122 (0, 0)) := (hg.block b (by omega) (fun e => hne e.symm)).trans HB1.out
  have x1 : w2.cell? ⟨b, 1, none⟩ = some v := by rw [Lib.cell_of_heap hb2]; rfl
  have f1 : w2.frozen? ⟨b, 1, none⟩ = false := Lib.frozen_of_heap hb2 1
  have hne2 : v'.ownBlock ≠ some b := by
    rcases hat with q | q
    · rw [q]; exact hne
    · rw [q]; intro e; simp only [Option.some.injEq] at e; omega
  have hF2 : ∀ g, v'.ownBlock = some g → F g ∨ (w.heap.size ≤ g ∧ g < w2.heap.size) := by
    intro g hgg
    have hgl := (World.ownsRow.lt hL2 g hgg).2
    rcases hat with q | q
    · rw [q] at hgg; exact Or.inl (hF g hgg)
    · rw [q] at hgg; simp only [Option.some.injEq] at hgg; exact Or.inr ⟨by omega, hgl⟩
  obtain ⟨ao, cap, rfl⟩ := lb_form hL2
  have HL2 := hid hL2
  have HF2 := hid hF2
  have HC2 := hid C2
  have HB2 := hid hb2
  clear hL2 hF2 hat hF C2 hb2 hg
  go_wp2
  go_ret2
  refine ⟨⟨_, rfl⟩, ⟨Or.inl hF0, .pointer (some ⟨b, 0, none⟩), _, ?_, Or.inr rfl, lb_chg (G := (· = b)) HL2.out (Chg.setCell (F := (· = b)) (p := ⟨b, 1, none⟩) (Chg.refl _ _) (Or.inl rfl) _) (fun g hg q => hne2 (by rw [hg, q])), hne2, fun g hg => by
    have q := HF2.out g hg
    simpa [World.setCell] using q⟩, ?_⟩
  · have := HB2.out
    simp [World.setCell, Array.getElem?_modify, this]
  · exact Chg.setCell (F := F) (p := ⟨b, 1, none⟩) (HC1.out.trans HC2.out (fun _ _ q => q)) (Or.inl hF0) _
end Go.Proofs.YtblkhlhhlalbkaaGreatDoor
namespace Go.Proofs.YtblkhlhhlalbkaaGreatDoor
open Go.RowKit Go.Lib Go.Sort
set_option linter.unusedVariables false
set_option maxRecDepth 20000

/-- A row of texts in memory, apart from a set of blocks. -/
def SR (w : World) (F : Nat → Prop) (p : Option Addr) (ss : List (List UInt8)) : Prop :=
  ss = [] ∨ ∃ pb off, p = some ⟨pb, off, none⟩ ∧ ¬ F pb ∧ ∀ i (h : i < ss.length), w.cell? ⟨pb, off + i, none⟩ = some (.string ⟨ss[i].toArray⟩)
theorem SR.at {w : World} {F : Nat → Prop} {p : Option Addr} {ss : List (List UInt8)} (h : SR w F p ss) {i : Nat} (hi : i < ss.length) : ∃ pb off, p = some ⟨pb, off, none⟩ ∧ ¬ F pb ∧ w.cell? ⟨pb, off + i, none⟩ = some (.string ⟨ss[i].toArray⟩) := by
  rcases h with rfl | ⟨pb, off, hp, hn, hc⟩
  · simp at hi
  · exact ⟨pb, off, hp, hn, hc i hi⟩
theorem WrE.refl {F : Nat → Prop} {b : Nat} {l : List UInt8} {w : World} (h : WF F b l w) : WrE F b l w w := ⟨h.mono (fun k q => Or.inl q), Chg.refl _ _⟩
theorem WrE.step {F : Nat → Prop} {b : Nat} {l m : List UInt8} {w w1 w2 : World} (h : WrE F b l w w1) (k : WrE (fun j => F j ∨ (w.heap.size ≤ j ∧ j < w1.heap.size)) b m w1 w2) : WrE F b m w w2 :=
  ⟨k.1.mono (fun j q => by
    have h1 := h.2.size
    have h2 := k.2.size
    rcases q with (q | q) | q
    · exact Or.inl q
    · exact Or.inr ⟨q.1, by omega⟩
    · exact Or.inr ⟨by omega, q.2⟩), h.2.trans k.2 (fun j hj q => by
    rcases q with q | q
    · exact q
    · omega)⟩
/-- A writer in the midst of a function: what it owns lies apart from what the function protects. -/
def WS (F P : Nat → Prop) (b : Nat) (m : List UInt8) (w X : World) : Prop :=
  (∃ G : Nat → Prop, WF G b m X ∧ (∀ k, G k → (F k ∨ w.heap.size ≤ k) ∧ k < X.heap.size ∧ ¬ P k)) ∧ (∀ k, P k → k < X.heap.size) ∧ Chg F w X
theorem WS.start {F : Nat → Prop} {b : Nat} {l : List UInt8} {w : World} (h : WF F b l w) (hF : ∀ k, F k → k < w.heap.size) : WS F (fun _ => False) b l w w :=
  ⟨⟨F, h, fun k q => ⟨Or.inl q, hF k q, id⟩⟩, fun _ q => q.elim, Chg.refl _ _⟩
theorem WS.alloc {F P : Nat → Prop} {b : Nat} {m : List UInt8} {w X : World} (h : WS F P b m w X) (o : Obj) : WS F (fun k => P k ∨ k = X.heap.size) b m w (X.alloc o) := by
  obtain ⟨⟨G, hG, hk⟩, hP, C⟩ := h
  refine ⟨⟨G, hG.below (albl X o), fun k q => ?_⟩, fun k q => ?_, C.alloc o⟩
  · obtain ⟨h1, h2, h3⟩ := hk k q
    refine ⟨h1, by simp; omega, fun r => ?_⟩
    rcases r with r | r
    · exact h3 r
    · omega
  · rcases q with q | q
    · have := hP k q; simp; omega
    · simp; omega
theorem WS.below {F P : Nat → Prop} {b : Nat} {m : List UInt8} {w X Y : World} (h : WS F P b m w X) (B : Below X.heap.size X Y) : WS F P b m w Y := by
  obtain ⟨⟨G, hG, hk⟩, hP, C⟩ := h
  refine ⟨⟨G, hG.below B, fun k q => ?_⟩, fun k q => Nat.lt_of_lt_of_le (hP k q) B.size, C.trans (Chg.of_below (F := F) B) (fun _ _ q => q)⟩
  obtain ⟨h1, h2, h3⟩ := hk k q
  exact ⟨h1, Nat.lt_of_lt_of_le h2 B.size, h3⟩
theorem WS.fin {F P : Nat → Prop} {b : Nat} {m : List UInt8} {w X : World} (h : WS F P b m w X) : WrE F b m w X := by
  obtain ⟨⟨G, hG, hk⟩, hP, C⟩ := h
  refine ⟨hG.mono fun k q => ?_, C⟩
  obtain ⟨h1, h2, h3⟩ := hk k q
  rcases h1 with h1 | h1
  · exact Or.inl h1
  · exact Or.inr ⟨h1, h2⟩
/-- A call that writes, in the midst of a function. -/
theorem WS.call {F P : Nat → Prop} {b : Nat} {m m' : List UInt8} {w X : World} {f : FuncId} {args : Array Value} (h : WS F P b m w X) (hF : ∀ k, F k → k < w.heap.size)
    (hc : ∀ G : Nat → Prop, (∀ k, G k → (F k ∨ w.heap.size ≤ k) ∧ k < X.heap.size ∧ ¬ P k) → WF G b m X → Calls Tryz.prog f args X fun e Y => e = .returned (.tuple #[]) ∧ WrE G b m' X Y) :
    Calls Tryz.prog f args X fun e Y => e = .returned (.tuple #[]) ∧ WS F P b m' w Y ∧ ∃ G : Nat → Prop, Chg G X Y ∧ (∀ k, P k → ¬ G k) ∧ (∀ k, G k → F k ∨ w.heap.size ≤ k) := by
  obtain ⟨⟨G, hG, hk⟩, hP, C⟩ := h
  refine (hc G hk hG).mono ?_
  rintro e Y ⟨rfl, h1, h2⟩
  have hs := h2.size
  have hs0 := C.size
  refine ⟨rfl, ⟨⟨_, h1, fun k q => ?_⟩, fun k q => Nat.lt_of_lt_of_le (hP k q) hs, C.trans h2 (fun k hk' q => ?_)⟩, G, h2, fun k q r => (hk k r).2.2 q, fun k q => (hk k q).1⟩
  · rcases q with q | q
    · obtain ⟨a1, a2, a3⟩ := hk k q
      exact ⟨a1, by omega, a3⟩
    · exact ⟨Or.inr (by omega), q.2, fun r => by have := hP k r; omega⟩
  · rcases (hk k q).1 with r | r
    · exact r
    · omega
theorem flat_take {ss : List (List UInt8)} {k : Nat} (h : k < ss.length) : (ss.take (k + 1)).flatten = (ss.take k).flatten ++ ss[k] := by
  rw [List.take_succ_eq_append_getElem h, List.flatten_append, List.flatten_cons, List.flatten_nil, List.append_nil]
theorem flat_le (ss : List (List UInt8)) (k : Nat) : (ss.take k).flatten.length ≤ ss.flatten.length := by
  have : ss.flatten = (ss.take k).flatten ++ (ss.drop k).flatten := by rw [← List.flatten_append, List.take_append_drop]
  rw [this]
  simp
set_option maxHeartbeats 4000000 in
theorem wtext {F : Nat → Prop} {b : Nat} {l : List UInt8} {w : World} (p : Option Addr) (ss : List (List UInt8)) (n c : Nat) (hn : n = ss.length) (h : WF F b l w) (hs : SR w F p ss) (hlen : l.length + ss.flatten.length ≤ 140737488351232) (hsl : ss.length ≤ 140737488351232) :
    Calls Tryz.prog 96 #[.pointer (some ⟨b, 0, none⟩), .slice p n c] w fun e w' => e = .returned (.tuple #[]) ∧ WrE F b (l ++ ss.flatten) w w' := by
  subst hn
  have HW := hid h
  have HS := hid hs
  have HL := hid hlen
  have hbl := h.lt
  clear h hs hlen
  go_enter Tryz.func96, Tryz.ntmps96
  go_wp2_with fail
  go_loopw [8] (fun i wr => ∃ k : Nat, k ≤ ss.length ∧ i = .int .i64 (k : Int) ∧ WrE F b (l ++ (ss.take k).flatten) w wr) (fun i _ => ss.length - (RowKit.intOf i).toNat)
  case atStart => exact ⟨0, Nat.zero_le _, rfl, by simpa using WrE.refl HW.out⟩
  case round =>
    obtain ⟨k, hk, rfl, hE⟩ := hrel
    have HE := hid hE
    have hwf := hE.1.lt
    clear hE
    by_cases hx : k < ss.length
    · have hxi : (k : Int) < (ss.length : Int) := by omega
      obtain ⟨pb, off, rfl, hnF, hc⟩ := HS.out.at hx
      have x1 := HE.out.2.cell hc hnF
      have HC := hid (wrText ss[k] HE.out.1 (by have h1 := flat_le ss (k + 1); rw [flat_take hx, List.length_append] at h1; have := HL.out; rw [List.length_append]; omega))
      have HF := hid (flat_take hx)
      clear hc
      go_wp2_with (go_at_call 149; with_reducible refine HC.out.mono ?_; rintro e w2 ⟨⟨nn, rfl⟩, e2⟩; have E2 := hid e2; clear e2)
      go_roundw
      case rel => exact ⟨k + 1, by omega, by go_num, by rw [HF.out, ← List.append_assoc]; exact HE.out.step E2.out⟩
      case measure => simp [RowKit.intOf]; omega
    · have hxi : ¬ (k : Int) < (ss.length : Int) := by omega
      obtain rfl : k = ss.length := by omega
      go_wp2_with fail
      refine end0 rfl rfl ⟨rfl, ?_⟩
      have := HE.out
      rw [List.take_length] at this
      exact this
/-- Texts that are made for a call. -/
theorem sr_new {F : Nat → Prop} {w : World} (ss : List (List UInt8)) (vs : List Value) (hv : vs = ss.map fun s => .string ⟨s.toArray⟩) (hF : ¬ F w.heap.size) : SR (w.alloc (.cells vs.toArray 9)) F (some ⟨w.heap.size, 0, none⟩) ss := by
  subst hv
  refine Or.inr ⟨w.heap.size, 0, rfl, hF, fun i hi => ?_⟩
  have e := heap_alloc_new w (.cells (ss.map fun s => (.string ⟨s.toArray⟩ : Value)).toArray 9)
  rw [Nat.zero_add, Lib.cell_of_heap (show _ = some (Obj.cells _ _ (0, 0)) from e)]
  simp [hi]
theorem WS.text {F P : Nat → Prop} {b : Nat} {m : List UInt8} {w X : World} (h : WS F P b m w X) (hF : ∀ k, F k → k < w.heap.size) (ss : List (List UInt8)) (vs : List Value) (hv : vs = ss.map fun s => .string ⟨s.toArray⟩) (n c : Nat) (hn : n = ss.length) (hlen : m.length + ss.flatten.length ≤ 140737488351232) (hsl : ss.length ≤ 140737488351232) :
    Calls Tryz.prog 96 #[.pointer (some ⟨b, 0, none⟩), .slice (some ⟨X.heap.size, 0, none⟩) n c] (X.alloc (.cells vs.toArray 9)) fun e Y => e = .returned (.tuple #[]) ∧ WS F (fun k => P k ∨ k = X.heap.size) b (m ++ ss.flatten) w Y ∧ ∃ G : Nat → Prop, Chg G (X.alloc (.cells vs.toArray 9)) Y ∧ (∀ k, P k ∨ k = X.heap.size → ¬ G k) ∧ (∀ k, G k → F k ∨ w.heap.size ≤ k) :=
  (h.alloc _).call hF fun G hG hW => wtext (some ⟨X.heap.size, 0, none⟩) ss n c hn hW (sr_new ss vs hv (fun q => (hG _ q).2.2 (Or.inr rfl))) hlen hsl
end Go.Proofs.YtblkhlhhlalbkaaGreatDoor
