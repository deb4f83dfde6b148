/- A disk of the project in memory; what Pages, Down, Arm, reach, step and New do. No conditions. -/
import Derived.Test.YtnecigbncggogaaDkArr
namespace Go.Proofs.Ytnecigbncggogaa
open Go.RowKit
set_option linter.unusedVariables false
set_option maxRecDepth 20000

def ptr (b : Nat) : Value := .pointer (some ⟨b, 0, none⟩)
def lastF (L : Int → List UInt8) : Int → Option Value := fun k => if L k = zero512 then none else some (.agg (pg (L k)))
def newF (l : List (Int × List UInt8)) : Int → Option Value := fun k => (newest l k).map fun i => .int .i64 (i : Int)
def wcells (l : List (Int × List UInt8)) : List Value := l.flatMap fun x => .int .i64 x.1 :: bcells x.2
def dcells (lb nb : Nat) (pv : Value) (d : Dk) : List Value := [.int .i64 (d.pages : Int), .map (some lb), pv, .map (some nb), .int .i64 d.arm, .bool d.down]
/-- A disk at a block: its map of what lasts, its map of places, its pending writes. -/
structure PDisk (w : World) (db lb nb : Nat) (pv : Value) (d : Dk) : Prop where
  blk : Blk w db (dcells lb nb pv d) 84
  lm : MapIs w lb (lastF d.last)
  nm : MapIs w nb (newF d.pend)
  pd : w.ownsRow 0 110 513 pv d.pend.length (wcells d.pend)
  ne : lb ≠ nb
  np : pv.ownBlock ≠ some db
  ok : d.ok
theorem Blk.not_map {w : World} {g : Nat} {cs : List Value} {t : TypeId} {f : Int → Option Value} (h : Blk w g cs t) (m : MapIs w g f) : False := by
  obtain ⟨es, c, l, hb, _⟩ := m
  rw [h] at hb
  cases hb
theorem own_not_map {w : World} {b size n g : Nat} {t : TypeId} {v : Value} {xs : List Value} {f : Int → Option Value} (h : w.ownsRow b t size v n xs) (hv : v.ownBlock = some g) (m : MapIs w g f) : False := by
  obtain ⟨es, c, l, hb, _⟩ := m
  rcases h.2 with ⟨rfl, _⟩ | ⟨g', cap, cur, rfl, _, hh, _⟩
  · cases hv
  · simp only [Value.ownBlock, Option.some.injEq] at hv
    subst hv
    rw [hh] at hb
    cases hb
theorem own_same {w w' : World} {b size n : Nat} {t : TypeId} {v : Value} {xs : List Value} (h : w.ownsRow b t size v n xs) (e : ∀ g, v.ownBlock = some g → w'.heap[g]? = w.heap[g]?) : w'.ownsRow b t size v n xs := by
  refine ⟨h.1, ?_⟩
  rcases h.2 with h2 | ⟨g, cap, cur, rfl, hb, hh, r⟩
  · exact Or.inl h2
  · exact Or.inr ⟨g, cap, cur, rfl, hb, (e g rfl).trans hh, r⟩
/-- What a disk's own blocks are. -/
def mine (db lb nb : Nat) (pv : Value) : Nat → Prop := fun k => k = db ∨ k = lb ∨ k = nb ∨ pv.ownBlock = some k
theorem PDisk.same {w w' : World} {db lb nb : Nat} {pv : Value} {d : Dk} (h : PDisk w db lb nb pv d) (e : ∀ k, mine db lb nb pv k → w'.heap[k]? = w.heap[k]?) : PDisk w' db lb nb pv d :=
  ⟨h.blk.same (e db (Or.inl rfl)), h.lm.same (e lb (Or.inr (Or.inl rfl))), h.nm.same (e nb (Or.inr (Or.inr (Or.inl rfl)))), own_same h.pd (fun g hg => e g (Or.inr (Or.inr (Or.inr hg)))), h.ne, h.np, h.ok⟩
theorem PDisk.lt {w : World} {db lb nb : Nat} {pv : Value} {d : Dk} (h : PDisk w db lb nb pv d) {k : Nat} (hk : mine db lb nb pv k) : k < w.heap.size := by
  rcases hk with rfl | rfl | rfl | hk
  · exact h.blk.lt
  · exact h.lm.lt
  · exact h.nm.lt
  · exact (h.pd.lt k hk).2
theorem PDisk.chg {F : Nat → Prop} {w w' : World} {db lb nb : Nat} {pv : Value} {d : Dk} (h : PDisk w db lb nb pv d) (c : Chg F w w') (hn : ∀ k, mine db lb nb pv k → ¬ F k) : PDisk w' db lb nb pv d :=
  h.same fun k hk => c.block k (h.lt hk) (hn k hk)
theorem PDisk.below {w w' : World} {db lb nb : Nat} {pv : Value} {d : Dk} (h : PDisk w db lb nb pv d) (c : Below w.heap.size w w') : PDisk w' db lb nb pv d :=
  h.same fun k hk => c.block k (h.lt hk)
theorem PDisk.alloc {w : World} {db lb nb : Nat} {pv : Value} {d : Dk} (h : PDisk w db lb nb pv d) (o : Obj) : PDisk (w.alloc o) db lb nb pv d := h.below ((Below.refl _ _).alloc (Nat.le_refl _) o)
theorem PDisk.drew {w : World} {db lb nb : Nat} {pv : Value} {d : Dk} (h : PDisk w db lb nb pv d) : PDisk w.drew db lb nb pv d := h.below (Below.refl _ _).drew
/-- The cells of a disk. -/
theorem PDisk.cells {w : World} {db lb nb : Nat} {pv : Value} {d : Dk} (h : PDisk w db lb nb pv d) :
    w.cell? ⟨db, 0, none⟩ = some (.int .i64 (d.pages : Int)) ∧ w.cell? ⟨db, 1, none⟩ = some (.map (some lb)) ∧ w.cell? ⟨db, 2, none⟩ = some pv ∧ w.cell? ⟨db, 3, none⟩ = some (.map (some nb)) ∧
    w.cell? ⟨db, 4, none⟩ = some (.int .i64 d.arm) ∧ w.cell? ⟨db, 5, none⟩ = some (.bool d.down) ∧ ∀ i, w.frozen? ⟨db, i, none⟩ = false :=
  ⟨h.blk.cell 0, h.blk.cell 1, h.blk.cell 2, h.blk.cell 3, h.blk.cell 4, h.blk.cell 5, fun i => h.blk.frozen i⟩
theorem set_block {w : World} {db i : Nat} {v : Value} {k : Nat} (h : k ≠ db) : (w.setCell ⟨db, i, none⟩ v).heap[k]? = w.heap[k]? := Below.heap_setCell _ _ _ _ h
theorem PDisk.set {w : World} {db lb nb i : Nat} {pv v : Value} {d d' : Dk} (h : PDisk w db lb nb pv d) (hb : (dcells lb nb pv d).set i v = dcells lb nb pv d') (hl : d'.last = d.last) (hp : d'.pend = d.pend) (hok : d'.ok) : PDisk (w.setCell ⟨db, i, none⟩ v) db lb nb pv d' := by
  have e : ∀ k, k ≠ db → (w.setCell ⟨db, i, none⟩ v).heap[k]? = w.heap[k]? := fun k hk => set_block hk
  have b := h.blk.set (i := i) v
  rw [hb] at b
  refine ⟨b, ?_, ?_, ?_, h.ne, h.np, hok⟩
  · rw [hl]; exact h.lm.same (e lb (by rintro rfl; exact h.blk.not_map h.lm))
  · rw [hp]; exact h.nm.same (e nb (by rintro rfl; exact h.blk.not_map h.nm))
  · rw [hp]; exact own_same h.pd (fun g hg => e g (by rintro rfl; exact h.np hg))
theorem chg_set (w : World) (db i : Nat) (v : Value) {F : Nat → Prop} (hF : F db) : Chg F w (w.setCell ⟨db, i, none⟩ v) := (Chg.refl F w).setCell (Or.inl hF) v
theorem set_size (w : World) (a : Addr) (v : Value) : (w.setCell a v).heap.size = w.heap.size := by simp [World.setCell]

set_option maxHeartbeats 1000000 in
theorem pages_any (db lb nb : Nat) (pv : Value) (d : Dk) (w : World) (h : PDisk w db lb nb pv d) :
    Calls Try.prog 39 #[.pointer (some ⟨db, 0, none⟩)] w fun e w' => e = .returned (.int .i64 (d.pages : Int)) ∧ w' = w := by
  obtain ⟨c0, c1, c2, c3, c4, c5, fz⟩ := h.cells
  clear h
  go_enter Try.func39, Try.ntmps39
  go_wp2
  go_ret
  exact ⟨rfl, rfl⟩
set_option maxHeartbeats 1000000 in
theorem down_any (db lb nb : Nat) (pv : Value) (d : Dk) (w : World) (h : PDisk w db lb nb pv d) :
    Calls Try.prog 17 #[.pointer (some ⟨db, 0, none⟩)] w fun e w' => e = .returned (.bool d.down) ∧ w' = w := by
  obtain ⟨c0, c1, c2, c3, c4, c5, fz⟩ := h.cells
  clear h
  go_enter Try.func17, Try.ntmps17
  go_wp2
  go_ret
  exact ⟨rfl, rfl⟩
set_option maxHeartbeats 1000000 in
theorem reach_any (db lb nb : Nat) (pv : Value) (d : Dk) (n : Int) (w : World) (h : PDisk w db lb nb pv d) :
    Calls Try.prog 70 #[.pointer (some ⟨db, 0, none⟩), .int .i64 n] w fun e w' => e = .returned (.int .i64 (d.reach n)) ∧ w' = w := by
  obtain ⟨c0, c1, c2, c3, c4, c5, fz⟩ := h.cells
  clear h
  have hr : Hid (d.reach n = if d.down then 9 else if n < 0 ∨ (d.pages : Int) ≤ n then 2 else 0) := rfl
  generalize d.reach n = r at *
  generalize (d.pages : Int) = p at *
  cases hd : d.down
  · rw [hd] at c5 hr
    by_cases h1 : n < 0
    · go_enter Try.func70, Try.ntmps70
      go_wp2
      go_ret
      exact ⟨by rw [hr.out]; simp [h1], rfl⟩
    · by_cases h2 : p ≤ n
      · go_enter Try.func70, Try.ntmps70
        go_wp2
        go_ret
        exact ⟨by rw [hr.out]; simp [h2], rfl⟩
      · go_enter Try.func70, Try.ntmps70
        go_wp2
        go_ret
        exact ⟨by rw [hr.out, if_neg (by simp), if_neg (by omega)]; rfl, rfl⟩
  · rw [hd] at c5 hr
    go_enter Try.func70, Try.ntmps70
    go_wp2
    go_ret
    exact ⟨by rw [hr.out]; simp, rfl⟩
set_option maxHeartbeats 1000000 in
theorem step_any (db lb nb : Nat) (pv : Value) (d : Dk) (w : World) (h : PDisk w db lb nb pv d) :
    Calls Try.prog 71 #[.pointer (some ⟨db, 0, none⟩)] w fun e w' => e = .returned (.int .i64 (if d.arm = 0 then 9 else 0)) ∧ PDisk w' db lb nb pv d.stepped ∧ (∀ F : Nat → Prop, F db → Chg F w w') ∧ w'.heap.size = w.heap.size := by
  obtain ⟨c0, c1, c2, c3, c4, c5, fz⟩ := h.cells
  have H := hid h
  have hok := h.ok
  have a1 := hok.arm1
  have a2 := hok.arm2
  clear h hok
  by_cases h1 : d.arm = 0
  · have hs : Hid (d.stepped = { d with down := true }) := by show _ = _; unfold Dk.stepped; rw [if_pos h1]
    generalize d.stepped = s at *
    rw [if_pos h1]
    go_enter Try.func71, Try.ntmps71
    go_wp2
    go_ret
    refine ⟨rfl, ?_, fun F hF => chg_set _ _ _ _ hF, set_size _ _ _⟩
    rw [hs.out]
    exact H.out.set rfl rfl rfl (by have := H.out.ok; exact ⟨this.last, this.pend, this.page, this.arm1, this.arm2, this.pages⟩)
  · rw [if_neg h1]
    by_cases h2 : 0 < d.arm
    · have hs : Hid (d.stepped = { d with arm := d.arm - 1 }) := by show _ = _; unfold Dk.stepped; rw [if_neg h1, if_pos h2]
      generalize d.stepped = s at *
      go_enter Try.func71, Try.ntmps71
      go_wp2
      go_ret
      refine ⟨rfl, ?_, fun F hF => chg_set _ _ _ _ hF, set_size _ _ _⟩
      rw [hs.out]
      exact H.out.set rfl rfl rfl (by have := H.out.ok; exact ⟨this.last, this.pend, this.page, by show -1 ≤ d.arm - 1; omega, by show d.arm - 1 ≤ _; omega, this.pages⟩)
    · have hs : Hid (d.stepped = d) := by show _ = _; unfold Dk.stepped; rw [if_neg h1, if_neg h2]
      generalize d.stepped = s at *
      go_enter Try.func71, Try.ntmps71
      go_wp2
      go_ret
      exact ⟨rfl, by rw [hs.out]; exact H.out, fun F hF => Chg.refl F w, rfl⟩
set_option maxHeartbeats 1000000 in
theorem arm_any (db lb nb : Nat) (pv : Value) (d : Dk) (n : Int) (w : World) (h : PDisk w db lb nb pv d) (hn : n ≤ 9223372036854775807) :
    Calls Try.prog 27 #[.pointer (some ⟨db, 0, none⟩), .int .i64 n] w fun e w' => e = .returned (.tuple #[]) ∧ PDisk w' db lb nb pv (d.armed n) ∧ (∀ F : Nat → Prop, F db → Chg F w w') ∧ w'.heap.size = w.heap.size := by
  obtain ⟨c0, c1, c2, c3, c4, c5, fz⟩ := h.cells
  have H := hid h
  have HK : Hid ((d.armed n).ok) := h.ok.armed n hn
  clear h
  by_cases h1 : n < -1
  · have hs : Hid (d.armed n = { d with arm := -1 }) := by show _ = _; unfold Dk.armed; congr 1; omega
    generalize d.armed n = s at *
    go_enter Try.func27, Try.ntmps27
    go_wp2
    refine end0 Try.results27 rfl ?_
    refine ⟨rfl, ?_, fun F hF => chg_set _ _ _ _ hF, set_size _ _ _⟩
    have hk := HK.out
    rw [hs.out] at hk ⊢
    exact H.out.set rfl rfl rfl hk
  · have hs : Hid (d.armed n = { d with arm := n }) := by show _ = _; unfold Dk.armed; congr 1; omega
    generalize d.armed n = s at *
    go_enter Try.func27, Try.ntmps27
    go_wp2
    refine end0 Try.results27 rfl ?_
    refine ⟨rfl, ?_, fun F hF => chg_set _ _ _ _ hF, set_size _ _ _⟩
    have hk := HK.out
    rw [hs.out] at hk ⊢
    exact H.out.set rfl rfl rfl hk

/-- A new disk. -/
theorem pd_new (w : World) (n : Nat) (hn : n ≤ 4096) : PDisk (((w.alloc (.map #[] 0)).alloc (.map #[] 0)).alloc (.cells (dcells w.heap.size (w.heap.size + 1) (.slice none 0 0) (Dk.fresh n)).toArray 84)) (w.heap.size + 2) w.heap.size (w.heap.size + 1) (.slice none 0 0) (Dk.fresh n) := by
  have s1 : (w.alloc (.map #[] 0)).heap.size = w.heap.size + 1 := by simp
  have s2 : ((w.alloc (.map #[] 0)).alloc (.map #[] 0)).heap.size = w.heap.size + 2 := by simp
  have m0 := MapIs.made w
  have m1 := MapIs.made (w.alloc (.map #[] 0))
  rw [s1] at m1
  have b := Blk.new ((w.alloc (.map #[] 0)).alloc (.map #[] 0)) (dcells w.heap.size (w.heap.size + 1) (.slice none 0 0) (Dk.fresh n)) 84
  rw [s2] at b
  refine ⟨b, ?_, ?_, World.ownsRow_nil _ _ _ _, by omega, by simp [Value.ownBlock], Dk.fresh_ok hn⟩
  · have e1 : ((w.alloc (.map #[] 0)).alloc (.map #[] 0)).heap[w.heap.size]? = (w.alloc (.map #[] 0)).heap[w.heap.size]? := Below.heap_alloc _ _ _ (by simp)
    have m2 := m0.same e1
    refine (m2.same ?_).congr (fun k => ?_)
    · exact Below.heap_alloc _ _ _ (by simp; omega)
    · simp [lastF, Dk.fresh]
  · refine (m1.same ?_).congr (fun k => ?_)
    · exact Below.heap_alloc _ _ _ (by simp)
    · rfl
set_option maxHeartbeats 1000000 in
theorem new_bad (n : Int) (w : World) (hn : n < 1 ∨ 4096 < n) :
    Calls Try.prog 11 #[.int .i64 n] w fun e w' => e = .returned (.tuple #[.pointer none, .int .i64 2]) ∧ w' = w := by
  by_cases h1 : n < 1
  · clear hn
    go_enter Try.func11, Try.ntmps11
    go_wp2
    go_ret2
    exact ⟨rfl, rfl⟩
  · have h2 : 4096 < n := by omega
    clear hn
    go_enter Try.func11, Try.ntmps11
    go_wp2
    go_ret2
    exact ⟨rfl, rfl⟩
set_option maxHeartbeats 1000000 in
theorem new_ok (n : Int) (w : World) (h1 : 1 ≤ n) (h2 : n ≤ 4096) :
    Calls Try.prog 11 #[.int .i64 n] w fun e w' => e = .returned (.tuple #[.pointer (some ⟨w.heap.size + 2, 0, none⟩), .int .i64 0]) ∧ PDisk w' (w.heap.size + 2) w.heap.size (w.heap.size + 1) (.slice none 0 0) (Dk.fresh n.toNat) ∧ w'.heap.size = w.heap.size + 3 ∧ Below w.heap.size w w' := by
  have P := hid (pd_new w n.toNat (by omega))
  have e : Hid ((((Dk.fresh n.toNat).pages : Nat) : Int) = n) := by show ((n.toNat : Nat) : Int) = n; omega
  have hmm := @run_makeMap Try.prog
  go_enter Try.func11, Try.ntmps11
  go_wp2
  go_ret2
  refine ⟨rfl, ?_, by simp, ?_⟩
  · have q := P.out
    unfold dcells at q
    rw [e.out] at q
    exact q
  · exact (((Below.refl _ _).alloc (Nat.le_refl _) _).alloc (by simp) _).alloc (by simp; omega) _
end Go.Proofs.Ytnecigbncggogaa
