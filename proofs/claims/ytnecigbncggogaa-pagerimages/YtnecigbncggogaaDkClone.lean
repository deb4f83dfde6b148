/- What maps.Clone, slices.Clone and (*Disk).Clone do. Condition: fewer than a million writes are pending. -/
import Derived.Test.YtnecigbncggogaaDkImage
import Derived.Laws.AppendOwnNone
import Derived.Laws.Cover3
namespace Go.Proofs.Ytnecigbncggogaa
open Go.RowKit
set_option linter.unusedVariables false
set_option maxRecDepth 20000

theorem eql_map_nil (w : World) (t k e : TypeId) (b : Nat) (h : Try.prog.underlying t = some (.map k e)) : (binOp .eql t (.map (some b)) (.map none)).run Try.prog w = .ok (.bool false) w := by
  simp only [binOp, Sem.run_bind, run_equal_map_nil w t k e (some b) h, Result.andThen_ok, Sem.run_pure]
  rfl
theorem assert_map (w : World) (t xT k e : TypeId) (v : Value) (h : Try.prog.underlying t = some (.map k e)) : (Instr.typeAssert (.iface t v) xT t false).run Try.prog w = .ok v w := by
  simp [Instr.typeAssert, run_underlying h, go_sem, Result.andThen]
theorem clone_run {w : World} {r : Nat} {es : Array MapEntry} {clock : Nat} (t : TypeId) (hb : w.heap[r]? = some (.map es clock)) :
    (Extern.MapsClone.clone #[.iface t (.map (some r))]).run Try.prog w = .ok (.iface t (.map (some w.heap.size))) (w.alloc (.map es clock)) := by
  have e : Extern.MapsClone.clone #[.iface t (.map (some r))] = (getObj r >>= fun o => match o with
      | .map entries clock => (newObj (.map entries clock) >>= fun n => pure (.iface t (.map (some n))))
      | _ => stuck "maps.clone: a map expected") := rfl
  rw [e]
  simp [MapKept.run_getObj_map hb, Result.andThen, go_sem]

set_option maxHeartbeats 1000000 in
theorem mclone_page (b : Nat) (f : Int → Option Value) (w : World) (h : MapIs w b f) :
    Calls Try.prog 77 #[.map (some b)] w fun e w' => e = .returned (.map (some w.heap.size)) ∧ MapIs w' w.heap.size f ∧ Below w.heap.size w w' ∧ w'.heap.size = w.heap.size + 1 := by
  obtain ⟨es, clock, l, hb, h1, h2, h3⟩ := h
  have hq := fun w => eql_map_nil w 80 _ _ b Try.underlying80
  have HM : Hid (MapIs (w.alloc (.map es clock)) w.heap.size f) := ⟨es, clock, l, heap_alloc_new w _, h1, h2, h3⟩
  have HR := hid (clone_run 80 hb)
  clear h1 h2 h3 hb
  go_enter Try.func77, Try.ntmps77
  go_wp2
  rw [run_callFunc_extern Try.func84 (by kernel_rfl) (by kernel_rfl) (by kernel_rfl) (e := Extern.MapsClone.clone) (by kernel_rfl), HR.out]
  simp only [Result.andThen]
  rw [Oper.upon_value]
  go_wp2
  rw [assert_map _ 80 _ _ _ _ Try.underlying80]
  simp only [Result.andThen]
  rw [Oper.upon_value]
  go_wp2
  go_ret
  exact ⟨rfl, HM.out, (Below.refl _ _).alloc (Nat.le_refl _) _, by simp⟩

set_option maxHeartbeats 1000000 in
theorem mclone_int (b : Nat) (f : Int → Option Value) (w : World) (h : MapIs w b f) :
    Calls Try.prog 79 #[.map (some b)] w fun e w' => e = .returned (.map (some w.heap.size)) ∧ MapIs w' w.heap.size f ∧ Below w.heap.size w w' ∧ w'.heap.size = w.heap.size + 1 := by
  obtain ⟨es, clock, l, hb, h1, h2, h3⟩ := h
  have hq := fun w => eql_map_nil w 81 _ _ b Try.underlying81
  have HM : Hid (MapIs (w.alloc (.map es clock)) w.heap.size f) := ⟨es, clock, l, heap_alloc_new w _, h1, h2, h3⟩
  have HR := hid (clone_run 81 hb)
  clear h1 h2 h3 hb
  go_enter Try.func79, Try.ntmps79
  go_wp2
  rw [run_callFunc_extern Try.func84 (by kernel_rfl) (by kernel_rfl) (by kernel_rfl) (e := Extern.MapsClone.clone) (by kernel_rfl), HR.out]
  simp only [Result.andThen]
  rw [Oper.upon_value]
  go_wp2
  rw [assert_map _ 81 _ _ _ _ Try.underlying81]
  simp only [Result.andThen]
  rw [Oper.upon_value]
  go_wp2
  go_ret
  exact ⟨rfl, HM.out, (Below.refl _ _).alloc (Nat.le_refl _) _, by simp⟩

theorem eql_slice (w : World) (a : Option Addr) (n c : Nat) : (binOp .eql 82 (.slice a n c) (.slice none 0 0)).run Try.prog w = .ok (.bool a.isNone) w := by
  simp only [binOp, Sem.run_bind, run_equal_slice_nil w 82 _ a n c Try.underlying82, Result.andThen_ok, Sem.run_pure]
theorem own_empty (w : World) : (w.alloc (.cells #[] 110)).ownsRow w.heap.size 110 513 (.slice (some ⟨w.heap.size, 0, none⟩) 0 0) 0 [] :=
  World.ownsRow_made w #[] 0 (Nat.le_refl _) (Nat.zero_le _) (by simp)
/-- slices.Clone of pending writes. -/
def scEnd (w : World) (n : Nat) (xs : List Value) (e : Ending) (w' : World) : Prop := ∃ p c, e = .returned (.slice p n c) ∧ w'.ownsRow w.heap.size 110 513 (.slice p n c) n xs ∧ Below w.heap.size w w'
set_option maxHeartbeats 1000000 in
theorem sclone_nil (w : World) : Calls Try.prog 78 #[.slice none 0 0] w (scEnd w 0 []) := by
  have q := fun w => eql_slice w none 0 0
  go_enter Try.func78, Try.ntmps78
  go_wp2
  go_ret
  exact ⟨none, 0, rfl, World.ownsRow_nil _ _ _ _, Below.refl _ _⟩
set_option maxHeartbeats 1000000 in
theorem sclone_some (g n cap : Nat) (xs : List Value) (w : World) (h : w.ownsRow 0 110 513 (.slice (some ⟨g, 0, none⟩) n cap) n xs) (h1 : ∀ u ∈ xs, u.oneCell' = true) (hm : n < 1000000) :
    Calls Try.prog 78 #[.slice (some ⟨g, 0, none⟩) n cap] w (scEnd w n xs) := by
  have q := fun w => eql_slice w (some ⟨g, 0, none⟩) n cap
  have HE := hid (own_empty w)
  have HS := hid (World.ownsRow.alloc h (.cells #[] 110))
  have HL : Hid (xs.length = n * 513) := h.1
  have H1 := hid h1
  obtain ⟨i0, hj, hz0, hz1, hz2⟩ := info_parts infoWrite
  have HA1 : Hid ((Value.agg (#[.int .i64 0] ++ pg zero512)).cells.size = 513) := by show (#[Value.int .i64 0] ++ pg zero512).size = 513; rw [Array.size_append, pg_size, zero512_len]; rfl
  have HB : Hid (Below w.heap.size w (w.alloc (.cells #[] 110))) := (Below.refl _ _).alloc (Nat.le_refl _) _
  have HM := hid hm
  clear h h1 hm
  by_cases hn : n = 0
  · subst hn
    obtain rfl : xs = [] := List.eq_nil_of_length_eq_zero (by have := HL.out; omega)
    go_enter Try.func78, Try.ntmps78
    go_wp2
    go_ret
    exact ⟨some ⟨w.heap.size, 0, none⟩, 0, rfl, HE.out, HB.out⟩
  · go_enter Try.func78, Try.ntmps78
    go_wp2_with (first
      | (at_builtin; go_loud (refine wpList_append_lies _ rfl _ _ 82 rfl w.heap.size 110 i0 _ 513 520 Try.underlying82 hj hz0 hz1 hz2 HA1.out (by decide) _ _ _ rfl HE.out ⟨g, 0, none⟩ n cap xs rfl HL.out ?h1 H1.out ?h2 ?h3 ?h4 ?h5 _ rfl ?_; (case h1 => exact World.ownsRow.cells HS.out rfl); (case h2 => omega); (case h3 => have := HM.out; unfold maxLen; omega); (case h4 => have := HM.out; omega); (case h5 => simp); intro g7 cap7 w7 O7 G7 A7 L7; have HO7 := hid O7; have HG7 := hid G7; clear O7 G7 A7 L7; try go_frame))
      | fail)
    go_ret
    have e0 : 0 + n = n := Nat.zero_add n
    show scEnd w n xs (.returned (.slice (some ⟨g7, 0, none⟩) (0 + n) cap7)) w7
    rw [e0]
    refine ⟨_, _, rfl, ?_, below_own HB.out HG7.out (by simp) (fun k hk => (HE.out.lt k hk).1)⟩
    have o := HO7.out
    rw [e0, List.nil_append] at o
    exact o

theorem wcells_one : ∀ l : List (Int × List UInt8), ∀ u ∈ wcells l, u.oneCell' = true := by
  intro l u hu
  obtain ⟨x, _, hx⟩ := List.mem_flatMap.1 hu
  rcases List.mem_cons.1 hx with rfl | hx
  · rfl
  · exact bcells_one _ u hx
theorem sclone_any (v : Value) (d : Dk) (w : World) (h : w.ownsRow 0 110 513 v d.pend.length (wcells d.pend)) (hm : d.pend.length < 1000000) :
    Calls Try.prog 78 #[v] w (scEnd w d.pend.length (wcells d.pend)) := by
  rcases h.2 with ⟨rfl, h0⟩ | ⟨g, cap, cur, rfl, _⟩
  · have e : d.pend = [] := List.length_eq_zero_iff.1 h0
    rw [e]
    exact sclone_nil w
  · exact sclone_some g _ cap _ w h (wcells_one _) hm
theorem sizeDisk : (Try.prog.info? 84).map (·.size) = some 6 := by kernel_rfl
theorem own_base {w : World} {b b' size n : Nat} {t : TypeId} {v : Value} {xs : List Value} (h : w.ownsRow b t size v n xs) (hb : b' ≤ b) : w.ownsRow b' t size v n xs := by
  refine ⟨h.1, ?_⟩
  rcases h.2 with h2 | ⟨g, cap, cur, hv, hg, r⟩
  · exact Or.inl h2
  · exact Or.inr ⟨g, cap, cur, hv, Nat.le_trans hb hg, r⟩
set_option maxHeartbeats 2000000 in
theorem clone_any (db lb nb : Nat) (pv : Value) (d : Dk) (w : World) (h : PDisk w db lb nb pv d) (hm : d.pend.length < 1000000) :
    Calls Try.prog 53 #[.pointer (some ⟨db, 0, none⟩)] w fun e w' => ∃ lb' nb' pv', e = .returned (.pointer (some ⟨w.heap.size, 0, none⟩)) ∧ PDisk w' w.heap.size lb' nb' pv' d ∧ Below w.heap.size w w' ∧ (∀ k, mine w.heap.size lb' nb' pv' k → w.heap.size ≤ k) := by
  obtain ⟨c0, c1, c2, c3, c4, c5, fz⟩ := h.cells
  have HP := hid h
  have HM := hid hm
  have hne : db ≠ w.heap.size := by have := h.blk.lt; omega
  have HI : Hid ((Try.prog.info? 84).map (·.size) = some (#[Value.int .i64 (d.pages : Int), .map (some lb), pv, .map (some nb), .int .i64 d.arm, .bool d.down] : Array Value).size) := sizeDisk
  have hpv : pv.oneCell' = true := by
    obtain ⟨p, c, rfl, _⟩ := own_form h.pd
    rfl
  have HO : Hid ((#[Value.int .i64 (d.pages : Int), .map (some lb), pv, .map (some nb), .int .i64 d.arm, .bool d.down] : Array Value).all (·.oneCell') = true) := by
    show _ = _
    refine Array.all_eq_true_iff_forall_mem.2 (fun v hv => ?_)
    simp only [List.mem_toArray, List.mem_cons, List.not_mem_nil, or_false] at hv
    rcases hv with rfl | rfl | rfl | rfl | rfl | rfl
    · rfl
    · rfl
    · exact hpv
    · rfl
    · rfl
    · rfl
  have HA : Hid (PDisk (w.alloc (.cells (dcells lb nb pv d).toArray 84)) db lb nb pv d) := h.alloc _
  have HBk : Hid (Blk (w.alloc (.cells (dcells lb nb pv d).toArray 84)) w.heap.size (dcells lb nb pv d) 84) := Blk.new w _ _
  have HBl : Hid (Below w.heap.size w (w.alloc (.cells (dcells lb nb pv d).toArray 84))) := (Below.refl _ _).alloc (Nat.le_refl _) _
  have HM1' := mclone_page lb _ _ HA.out.lm
  obtain ⟨a0, a1, a2, a3, a4, a5, af⟩ := HA.out.cells
  unfold dcells at a0 a1 a2 a3 a4 a5 af
  have sA : (w.alloc (.cells (dcells lb nb pv d).toArray 84)).heap.size = w.heap.size + 1 := by simp
  have HF1 : Hid (∀ w2 : World, MapIs w2 (w.heap.size + 1) (lastF d.last) → Below (w.heap.size + 1) (w.alloc (.cells (dcells lb nb pv d).toArray 84)) w2 → w2.heap.size = w.heap.size + 1 + 1 →
      Hid (PDisk (w2.setCell ⟨w.heap.size, 1, none⟩ (.map (some (w.heap.size + 1)))) db lb nb pv d) ∧ Hid (Blk (w2.setCell ⟨w.heap.size, 1, none⟩ (.map (some (w.heap.size + 1)))) w.heap.size (dcells (w.heap.size + 1) nb pv d) 84) ∧ Hid (MapIs (w2.setCell ⟨w.heap.size, 1, none⟩ (.map (some (w.heap.size + 1)))) (w.heap.size + 1) (lastF d.last)) ∧
      Hid (Below w.heap.size w (w2.setCell ⟨w.heap.size, 1, none⟩ (.map (some (w.heap.size + 1))))) ∧ Hid ((w2.setCell ⟨w.heap.size, 1, none⟩ (.map (some (w.heap.size + 1)))).heap.size = w.heap.size + 2) ∧
      w2.cell? ⟨w.heap.size, 1, none⟩ = some (.map (some lb)) ∧ w2.frozen? ⟨w.heap.size, 1, none⟩ = false ∧ (w2.setCell ⟨w.heap.size, 1, none⟩ (.map (some (w.heap.size + 1)))).cell? ⟨db, 2, none⟩ = some pv ∧ (w2.setCell ⟨w.heap.size, 1, none⟩ (.map (some (w.heap.size + 1)))).cell? ⟨db, 3, none⟩ = some (.map (some nb))) := by
    intro w2 M2 B2 S2
    have P2 : PDisk w2 db lb nb pv d := HA.out.below (by rw [sA]; exact B2)
    have K2 : Blk w2 w.heap.size (dcells lb nb pv d) 84 := HBk.out.below B2 (by omega)
    have e : ∀ k, k ≠ w.heap.size → (w2.setCell ⟨w.heap.size, 1, none⟩ (.map (some (w.heap.size + 1)))).heap[k]? = w2.heap[k]? := fun k hk => set_block hk
    have P3 : PDisk (w2.setCell ⟨w.heap.size, 1, none⟩ (.map (some (w.heap.size + 1)))) db lb nb pv d := P2.same (fun k hk => e k (by have := HP.out.lt hk; omega))
    refine ⟨P3, K2.set _, M2.same (e _ (by omega)), (HBl.out.trans (B2.mono (by omega))).setCell (Nat.le_refl _) _, ?_, K2.cell 1, K2.frozen 1, P3.cells.2.2.1, P3.cells.2.2.2.1⟩
    show _ = _
    rw [set_size]
    exact S2
  have HF2 : Hid (∀ W2 : World, PDisk W2 db lb nb pv d → Blk W2 w.heap.size (dcells (w.heap.size + 1) nb pv d) 84 → MapIs W2 (w.heap.size + 1) (lastF d.last) → Below w.heap.size w W2 → W2.heap.size = w.heap.size + 2 →
      ∀ (w3 : World) (p : Option Addr) (c : Nat), w3.ownsRow W2.heap.size 110 513 (.slice p d.pend.length c) d.pend.length (wcells d.pend) → Below W2.heap.size W2 w3 →
      Hid (PDisk (w3.setCell ⟨w.heap.size, 2, none⟩ (.slice p d.pend.length c)) db lb nb pv d) ∧ Hid (Blk (w3.setCell ⟨w.heap.size, 2, none⟩ (.slice p d.pend.length c)) w.heap.size (dcells (w.heap.size + 1) nb (.slice p d.pend.length c) d) 84) ∧ Hid (MapIs (w3.setCell ⟨w.heap.size, 2, none⟩ (.slice p d.pend.length c)) (w.heap.size + 1) (lastF d.last)) ∧
      Hid (Below w.heap.size w (w3.setCell ⟨w.heap.size, 2, none⟩ (.slice p d.pend.length c))) ∧ Hid ((w3.setCell ⟨w.heap.size, 2, none⟩ (.slice p d.pend.length c)).ownsRow (w.heap.size + 2) 110 513 (.slice p d.pend.length c) d.pend.length (wcells d.pend)) ∧ Hid (w.heap.size + 2 ≤ (w3.setCell ⟨w.heap.size, 2, none⟩ (.slice p d.pend.length c)).heap.size) ∧
      w3.cell? ⟨w.heap.size, 2, none⟩ = some pv ∧ w3.frozen? ⟨w.heap.size, 2, none⟩ = false ∧ (w3.setCell ⟨w.heap.size, 2, none⟩ (.slice p d.pend.length c)).cell? ⟨db, 3, none⟩ = some (.map (some nb))) := by
    intro W2 P2 K2 M2 B2 S2 w3 p c O3 B3
    have e : ∀ k, k ≠ w.heap.size → (w3.setCell ⟨w.heap.size, 2, none⟩ (.slice p d.pend.length c)).heap[k]? = w3.heap[k]? := fun k hk => set_block hk
    have P3 : PDisk (w3.setCell ⟨w.heap.size, 2, none⟩ (.slice p d.pend.length c)) db lb nb pv d := (P2.below B3).same (fun k hk => e k (by have := HP.out.lt hk; omega))
    have K3 : Blk w3 w.heap.size (dcells (w.heap.size + 1) nb pv d) 84 := K2.below B3 (by omega)
    have hb := B3.size
    refine ⟨P3, K3.set _, (M2.same (B3.block _ (by omega))).same (e _ (by omega)), (B2.trans (B3.mono (by omega))).setCell (Nat.le_refl _) _, ?_, ?_, K3.cell 2, K3.frozen 2, P3.cells.2.2.2.1⟩
    · have := own_base O3 (b' := w.heap.size + 2) (by omega)
      exact own_same this (fun k hk => e k (by have := (this.lt k hk).1; omega))
    · show _ ≤ _
      rw [set_size]
      omega
  have HF3 : Hid (∀ (W3 : World) (p : Option Addr) (c : Nat), PDisk W3 db lb nb pv d → Blk W3 w.heap.size (dcells (w.heap.size + 1) nb (.slice p d.pend.length c) d) 84 → MapIs W3 (w.heap.size + 1) (lastF d.last) → Below w.heap.size w W3 → W3.ownsRow (w.heap.size + 2) 110 513 (.slice p d.pend.length c) d.pend.length (wcells d.pend) → w.heap.size + 2 ≤ W3.heap.size →
      ∀ w4 : World, MapIs w4 W3.heap.size (newF d.pend) → Below W3.heap.size W3 w4 → w4.heap.size = W3.heap.size + 1 →
      w4.cell? ⟨w.heap.size, 3, none⟩ = some (.map (some nb)) ∧ w4.frozen? ⟨w.heap.size, 3, none⟩ = false ∧ Hid (∃ lb' nb' pv', PDisk (w4.setCell ⟨w.heap.size, 3, none⟩ (.map (some W3.heap.size))) w.heap.size lb' nb' pv' d ∧ Below w.heap.size w (w4.setCell ⟨w.heap.size, 3, none⟩ (.map (some W3.heap.size))) ∧ (∀ k, mine w.heap.size lb' nb' pv' k → w.heap.size ≤ k))) := by
    intro W3 p c P3 K3 M3 B3 O3 S3 w4 M4 B4 S4
    have e : ∀ k, k ≠ w.heap.size → (w4.setCell ⟨w.heap.size, 3, none⟩ (.map (some W3.heap.size))).heap[k]? = w4.heap[k]? := fun k hk => set_block hk
    have K4 : Blk w4 w.heap.size (dcells (w.heap.size + 1) nb (.slice p d.pend.length c) d) 84 := K3.below B4 (by omega)
    have O4 : (w4.setCell ⟨w.heap.size, 3, none⟩ (.map (some W3.heap.size))).ownsRow (w.heap.size + 2) 110 513 (.slice p d.pend.length c) d.pend.length (wcells d.pend) :=
      own_same (own_same O3 (fun k hk => B4.block k (O3.lt k hk).2)) (fun k hk => e k (by have := (O3.lt k hk).1; omega))
    refine ⟨K4.cell 3, K4.frozen 3, w.heap.size + 1, W3.heap.size, .slice p d.pend.length c, ⟨K4.set _, (M3.same (B4.block _ (by omega))).same (e _ (by omega)), M4.same (e _ (by omega)), own_base O4 (Nat.zero_le _), by omega, ?_, HP.out.ok⟩, (B3.trans (B4.mono (by omega))).setCell (Nat.le_refl _) _, fun k hk => ?_⟩
    · intro hk
      have := (O3.lt _ hk).1
      omega
    · rcases hk with rfl | rfl | rfl | hk
      · exact Nat.le_refl _
      · omega
      · omega
      · have := (O3.lt _ hk).1
        omega
  rw [sA] at HM1'
  have HM1 := hid HM1'
  unfold dcells at HM1
  clear h hm hpv sA HM1'
  go_enter Try.func53, Try.ntmps53
  go_wp2_with (first
    | (refine wl_store_new rfl 84 _ _ rfl _ _ _ rfl ?hg rfl ?hi ?hj ?ho ?_; (case hg => rfl); (case hi => exact HI.out); (case hj => rfl); (case ho => exact HO.out); try go_frame)
    | (go_at_call 77; go_loud ((with_reducible refine HM1.out.mono ?_); rintro e w2 ⟨rfl, M2, B2, S2⟩; obtain ⟨HD2, HK2, HM2, HB2, HZ2, x1, f1, y2, y3⟩ := HF1.out w2 M2 B2 S2; clear M2 B2 S2; have hs2 := sclone_any pv d _ HD2.out.pd HM.out; unfold scEnd at hs2; have HS2 := hid hs2; clear hs2))
    | (go_at_call 78; go_loud ((with_reducible refine HS2.out.mono ?_); rintro e w3 ⟨p3, cp3, rfl, O3, B3⟩; obtain ⟨HD3, HK3, HM3, HB3, HO3, HZ3, x2, f2, z3⟩ := HF2.out _ HD2.out HK2.out HM2.out HB2.out HZ2.out w3 p3 cp3 O3 B3; clear O3 B3; have HS3 := hid (mclone_int nb _ _ HD3.out.nm)))
    | (go_at_call 79; go_loud ((with_reducible refine HS3.out.mono ?_); rintro e w4 ⟨rfl, M4, B4, S4⟩; obtain ⟨x3, f3, HE4⟩ := HF3.out _ _ _ HD3.out HK3.out HM3.out HB3.out HO3.out HZ3.out w4 M4 B4 S4; clear M4 B4 S4))
    | fail)
  go_ret
  obtain ⟨l', n', v', h'⟩ := HE4.out
  rw [set_size] at h'
  exact ⟨l', n', v', rfl, h'⟩
end Go.Proofs.Ytnecigbncggogaa
