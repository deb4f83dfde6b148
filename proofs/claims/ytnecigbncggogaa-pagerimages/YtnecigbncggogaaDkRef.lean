/- The document's disk in memory; what its New, Pages, Arms and fails do. No conditions. -/
import Derived.Test.YtnecigbncggogaaDkFlat
import Derived.Test.YtnecigbncggogaaDkClone
import Derived.Deep.RegionHeldLaw
import Derived.BigQuiet
namespace Go.Proofs.Ytnecigbncggogaa
open Go.RowKit
set_option linter.unusedVariables false
set_option maxRecDepth 20000

/-- A pending write of the document's disk: the page, the bytes, their block, its room. -/
abbrev RP := List ((Int × List UInt8) × (Nat × Nat))
def rcells (lb : Nat) (pv : Value) (d : Dk) : List Value := [.slice (some ⟨lb, 0, none⟩) (d.pages * 512) (d.pages * 512), pv, .int .i64 d.arm, .bool d.down]
def rw1 (x : (Int × List UInt8) × (Nat × Nat)) : List Value := [.int .i64 x.1.1, .slice (some ⟨x.2.1, 0, none⟩) 512 x.2.2]
def rws (rp : RP) : List Value := rp.flatMap rw1
theorem rws_snoc (rp : RP) (x : (Int × List UInt8) × (Nat × Nat)) : rws (rp ++ [x]) = rws rp ++ rw1 x := by simp [rws]
theorem rws_len : ∀ rp : RP, (rws rp).length = rp.length * 2
  | [] => rfl
  | x :: r => by
    show (rw1 x ++ rws r).length = _
    rw [List.length_append, rws_len r]
    simp [rw1]
    omega
theorem rws_at : ∀ (rp : RP) (i : Nat) (h : i < rp.length), (rws rp)[i * 2]? = some (.int .i64 rp[i].1.1) ∧ (rws rp)[i * 2 + 1]? = some (.slice (some ⟨rp[i].2.1, 0, none⟩) 512 rp[i].2.2)
  | [], i, h => by simp at h
  | x :: r, 0, h => ⟨rfl, rfl⟩
  | x :: r, i + 1, h => by
    have e := rws_at r i (by simpa using h)
    have e1 : (rws (x :: r)) = rw1 x ++ rws r := rfl
    rw [e1]
    have l1 : (rw1 x).length = 2 := rfl
    rw [List.getElem?_append_right (by omega), List.getElem?_append_right (by omega), l1, show (i + 1) * 2 - 2 = i * 2 by omega, show (i + 1) * 2 + 1 - 2 = i * 2 + 1 by omega]
    simpa using e
theorem rws_one (rp : RP) : ∀ u ∈ rws rp, u.oneCell' = true := by
  intro u hu
  obtain ⟨x, _, hx⟩ := List.mem_flatMap.1 hu
  simp only [rw1, List.mem_cons, List.not_mem_nil, or_false] at hx
  rcases hx with rfl | rfl <;> rfl
/-- The document's disk at a block: the block of what lasts, the pending writes. -/
structure RDisk (w : World) (rb lb : Nat) (pv : Value) (rp : RP) (d : Dk) : Prop where
  blk : Blk w rb (rcells lb pv d) 49
  lm : Blk w lb (bcells (flatL d.last d.pages)) 5
  pd : w.ownsRow 0 113 2 pv d.pend.length (rws rp)
  pe : d.pend = rp.map (·.1)
  pb : ∀ x ∈ rp, Byts w (some ⟨x.2.1, 0, none⟩) x.1.2
  pn : ∀ x ∈ rp, x.2.1 ≠ rb ∧ x.2.1 ≠ lb ∧ pv.ownBlock ≠ some x.2.1 ∧ 512 ≤ x.2.2 ∧ x.2.2 ≤ maxLen
  nl : lb ≠ rb
  np : pv.ownBlock ≠ some rb
  nq : pv.ownBlock ≠ some lb
  ok : d.ok
def rmine (rb lb : Nat) (pv : Value) (rp : RP) : Nat → Prop := fun k => k = rb ∨ k = lb ∨ pv.ownBlock = some k ∨ ∃ x ∈ rp, x.2.1 = k
theorem RDisk.len {w : World} {rb lb : Nat} {pv : Value} {rp : RP} {d : Dk} (h : RDisk w rb lb pv rp d) : rp.length = d.pend.length := by rw [h.pe, List.length_map]
theorem RDisk.bl {w : World} {rb lb : Nat} {pv : Value} {rp : RP} {d : Dk} (h : RDisk w rb lb pv rp d) {x : (Int × List UInt8) × (Nat × Nat)} (hx : x ∈ rp) : x.1.2.length = 512 ∧ 0 ≤ x.1.1 ∧ x.1.1 < d.pages := by
  have hm : x.1 ∈ d.pend := by rw [h.pe]; exact List.mem_map.2 ⟨x, hx, rfl⟩
  exact ⟨h.ok.pend _ hm, h.ok.page _ hm⟩
theorem RDisk.same {w w' : World} {rb lb : Nat} {pv : Value} {rp : RP} {d : Dk} (h : RDisk w rb lb pv rp d) (e : ∀ k, rmine rb lb pv rp k → w'.heap[k]? = w.heap[k]?) : RDisk w' rb lb pv rp d :=
  ⟨h.blk.same (e rb (Or.inl rfl)), h.lm.same (e lb (Or.inr (Or.inl rfl))), own_same h.pd (fun g hg => e g (Or.inr (Or.inr (Or.inl hg)))), h.pe, fun x hx => (h.pb x hx).same (fun b off he => by
    simp only [Option.some.injEq, Addr.mk.injEq] at he
    rw [← he.1]
    exact e _ (Or.inr (Or.inr (Or.inr ⟨x, hx, rfl⟩)))), h.pn, h.nl, h.np, h.nq, h.ok⟩
theorem byts_lt {w : World} {g : Nat} {l : List UInt8} (h : Byts w (some ⟨g, 0, none⟩) l) (hl : 0 < l.length) : g < w.heap.size := by
  rcases h with h | ⟨b, off, e, hc⟩
  · rw [h] at hl; simp at hl
  · simp only [Option.some.injEq, Addr.mk.injEq] at e
    rw [e.1]
    exact cell_lt (hc 0 hl)
theorem RDisk.lt {w : World} {rb lb : Nat} {pv : Value} {rp : RP} {d : Dk} (h : RDisk w rb lb pv rp d) {k : Nat} (hk : rmine rb lb pv rp k) : k < w.heap.size := by
  rcases hk with rfl | rfl | hk | ⟨x, hx, rfl⟩
  · exact h.blk.lt
  · exact h.lm.lt
  · exact (h.pd.lt k hk).2
  · exact byts_lt (h.pb x hx) (by have := (h.bl hx).1; omega)
theorem RDisk.chg {F : Nat → Prop} {w w' : World} {rb lb : Nat} {pv : Value} {rp : RP} {d : Dk} (h : RDisk w rb lb pv rp d) (c : Chg F w w') (hn : ∀ k, rmine rb lb pv rp k → ¬ F k) : RDisk w' rb lb pv rp d :=
  h.same fun k hk => c.block k (h.lt hk) (hn k hk)
theorem RDisk.below {w w' : World} {rb lb : Nat} {pv : Value} {rp : RP} {d : Dk} (h : RDisk w rb lb pv rp d) (c : Below w.heap.size w w') : RDisk w' rb lb pv rp d :=
  h.same fun k hk => c.block k (h.lt hk)
theorem RDisk.cells {w : World} {rb lb : Nat} {pv : Value} {rp : RP} {d : Dk} (h : RDisk w rb lb pv rp d) :
    w.cell? ⟨rb, 0, none⟩ = some (.slice (some ⟨lb, 0, none⟩) (d.pages * 512) (d.pages * 512)) ∧ w.cell? ⟨rb, 1, none⟩ = some pv ∧ w.cell? ⟨rb, 2, none⟩ = some (.int .i64 d.arm) ∧ w.cell? ⟨rb, 3, none⟩ = some (.bool d.down) ∧ ∀ i, w.frozen? ⟨rb, i, none⟩ = false :=
  ⟨h.blk.cell 0, h.blk.cell 1, h.blk.cell 2, h.blk.cell 3, fun i => h.blk.frozen i⟩
/-- A cell of the disk turned. -/
theorem RDisk.set {w : World} {rb lb i : Nat} {pv v : Value} {rp : RP} {d d' : Dk} (h : RDisk w rb lb pv rp d) (hb : (rcells lb pv d).set i v = rcells lb pv d') (hl : d'.last = d.last) (hg : d'.pages = d.pages) (hp : d'.pend = d.pend) (hok : d'.ok) : RDisk (w.setCell ⟨rb, i, none⟩ v) rb lb pv rp d' := by
  have e : ∀ k, k ≠ rb → (w.setCell ⟨rb, i, none⟩ v).heap[k]? = w.heap[k]? := fun k hk => set_block hk
  have b := h.blk.set (i := i) v
  rw [hb] at b
  refine ⟨b, ?_, ?_, by rw [hp]; exact h.pe, fun x hx => (h.pb x hx).same (fun b off he => ?_), h.pn, h.nl, h.np, h.nq, hok⟩
  · rw [hl, hg]; exact h.lm.same (e lb h.nl)
  · rw [hp]; exact own_same h.pd (fun g hg => e g (by rintro rfl; exact h.np hg))
  · simp only [Option.some.injEq, Addr.mk.injEq] at he
    rw [← he.1]
    exact e _ (h.pn x hx).1
/-- A write of the disk. -/
theorem RDisk.wrote {w : World} {rb lb : Nat} {pv : Value} {rp : RP} {d : Dk} (h : RDisk w rb lb pv rp d) {i : Nat} (hi : i < rp.length) :
    ∃ g cap, pv = .slice (some ⟨g, 0, none⟩) d.pend.length cap ∧ d.pend.length ≤ cap ∧ cap ≤ maxLen ∧ w.cell? ⟨g, i * 2, none⟩ = some (.int .i64 rp[i].1.1) ∧ w.cell? ⟨g, i * 2 + 1, none⟩ = some (.slice (some ⟨rp[i].2.1, 0, none⟩) 512 rp[i].2.2) := by
  have hl := h.len
  obtain ⟨h1, h2⟩ := h.pd
  rcases h2 with ⟨_, h0⟩ | ⟨g, cap, cur, hv, _, hh, hle, hm, hs, ht⟩
  · omega
  · obtain ⟨a1, a2⟩ := rws_at rp i hi
    have hw := rws_len rp
    refine ⟨g, cap, hv, hle, hm, ?_, ?_⟩
    · rw [cell_of_row w g _ cur _ _ hh, ← a1, ← ht, List.getElem?_take, if_pos (by omega), Array.getElem?_toList]
    · rw [cell_of_row w g _ cur _ _ hh, ← a2, ← ht, List.getElem?_take, if_pos (by omega), Array.getElem?_toList]
/-- The document's disk, all of whose blocks lie in a set. -/
def RD (w : World) (rb : Nat) (F : Nat → Prop) (d : Dk) : Prop := ∃ lb pv rp, RDisk w rb lb pv rp d ∧ ∀ k, rmine rb lb pv rp k → F k
theorem RD.okk {w : World} {rb : Nat} {F : Nat → Prop} {d : Dk} (h : RD w rb F d) : d.ok := by obtain ⟨_, _, _, h, _⟩ := h; exact h.ok
theorem RD.mono {w : World} {rb : Nat} {F G : Nat → Prop} {d : Dk} (h : RD w rb F d) (hG : ∀ k, k < w.heap.size → F k → G k) : RD w rb G d := by
  obtain ⟨lb, pv, rp, h, hF⟩ := h
  exact ⟨lb, pv, rp, h, fun k hk => hG k (h.lt hk) (hF k hk)⟩
theorem RD.chg {w w' : World} {rb : Nat} {F G : Nat → Prop} {d : Dk} (h : RD w rb F d) (c : Chg G w w') (hd : ∀ k, F k → ¬ G k) : RD w' rb F d := by
  obtain ⟨lb, pv, rp, h, hF⟩ := h
  exact ⟨lb, pv, rp, h.chg c (fun k hk => hd k (hF k hk)), hF⟩
theorem RD.below {w w' : World} {rb : Nat} {F : Nat → Prop} {d : Dk} (h : RD w rb F d) (c : Below w.heap.size w w') : RD w' rb F d := by
  obtain ⟨lb, pv, rp, h, hF⟩ := h
  exact ⟨lb, pv, rp, h.below c, hF⟩
theorem RD.lt {w : World} {rb : Nat} {F : Nat → Prop} {d : Dk} (h : RD w rb F d) : rb < w.heap.size := by obtain ⟨_, _, _, h, _⟩ := h; exact h.blk.lt
theorem RD.mem {w : World} {rb : Nat} {F : Nat → Prop} {d : Dk} (h : RD w rb F d) : F rb := by obtain ⟨_, _, _, h, hF⟩ := h; exact hF _ (Or.inl rfl)

set_option maxHeartbeats 1000000 in
theorem rpages_any (rb lb : Nat) (pv : Value) (rp : RP) (d : Dk) (w : World) (h : RDisk w rb lb pv rp d) :
    Calls Try.prog 45 #[.pointer (some ⟨rb, 0, none⟩)] w fun e w' => e = .returned (.int .i64 (d.pages : Int)) ∧ w' = w := by
  obtain ⟨c0, c1, c2, c3, fz⟩ := h.cells
  have hp := h.ok.pages
  clear h
  have hq : Int.tdiv ((d.pages * 512 : Nat) : Int) 512 = (d.pages : Int) := by
    rw [Int.tdiv_eq_ediv_of_nonneg (by omega)]
    omega
  generalize hL : d.pages * 512 = L at *
  have hL2 : (L : Int) ≤ 2097152 := by omega
  clear hL
  go_enter Try.func45, Try.ntmps45
  go_wp2
  go_ret
  exact ⟨rfl, rfl⟩
set_option maxHeartbeats 1000000 in
theorem rfails_any (rb lb : Nat) (pv : Value) (rp : RP) (d : Dk) (w : World) (h : RDisk w rb lb pv rp d) :
    Calls Try.prog 75 #[.pointer (some ⟨rb, 0, none⟩)] w fun e w' => e = .returned (.bool (decide (d.arm = 0))) ∧ RDisk w' rb lb pv rp d.stepped ∧ (∀ F : Nat → Prop, F rb → Chg F w w') ∧ w'.heap.size = w.heap.size := by
  obtain ⟨c0, c1, c2, c3, fz⟩ := h.cells
  have H := hid h
  have hok := h.ok
  have a1 := hok.arm1
  have a2 := hok.arm2
  clear h hok
  by_cases h1 : d.arm = 0
  · have hs : Hid (d.stepped = { d with down := true }) := by show _ = _; unfold Dk.stepped; rw [if_pos h1]
    generalize d.stepped = s at *
    rw [decide_eq_true h1]
    go_enter Try.func75, Try.ntmps75
    go_wp2
    go_ret
    refine ⟨rfl, ?_, fun F hF => chg_set _ _ _ _ hF, set_size _ _ _⟩
    rw [hs.out]
    exact H.out.set rfl rfl rfl rfl (by have := H.out.ok; exact ⟨this.last, this.pend, this.page, this.arm1, this.arm2, this.pages⟩)
  · rw [decide_eq_false h1]
    by_cases h2 : 0 < d.arm
    · have hs : Hid (d.stepped = { d with arm := d.arm - 1 }) := by show _ = _; unfold Dk.stepped; rw [if_neg h1, if_pos h2]
      generalize d.stepped = s at *
      go_enter Try.func75, Try.ntmps75
      go_wp2
      go_ret
      refine ⟨rfl, ?_, fun F hF => chg_set _ _ _ _ hF, set_size _ _ _⟩
      rw [hs.out]
      exact H.out.set rfl rfl rfl rfl (by have := H.out.ok; exact ⟨this.last, this.pend, this.page, by show -1 ≤ d.arm - 1; omega, by show d.arm - 1 ≤ _; omega, this.pages⟩)
    · have hs : Hid (d.stepped = d) := by show _ = _; unfold Dk.stepped; rw [if_neg h1, if_neg h2]
      generalize d.stepped = s at *
      go_enter Try.func75, Try.ntmps75
      go_wp2
      go_ret
      exact ⟨rfl, by rw [hs.out]; exact H.out, fun F hF => Chg.refl F w, rfl⟩
set_option maxHeartbeats 1000000 in
theorem rarms_any (rb lb : Nat) (pv : Value) (rp : RP) (d : Dk) (n : Int) (w : World) (h : RDisk w rb lb pv rp d) (hn : n ≤ 9223372036854775807) :
    Calls Try.prog 48 #[.pointer (some ⟨rb, 0, none⟩), .int .i64 n] w fun e w' => e = .returned (.tuple #[]) ∧ RDisk w' rb lb pv rp (d.armed n) ∧ (∀ F : Nat → Prop, F rb → Chg F w w') ∧ w'.heap.size = w.heap.size := by
  obtain ⟨c0, c1, c2, c3, fz⟩ := h.cells
  have H := hid h
  have HK : Hid ((d.armed n).ok) := h.ok.armed n hn
  clear h
  by_cases h1 : n ≤ -1
  · have hs : Hid (d.armed n = { d with arm := -1 }) := by show _ = _; unfold Dk.armed; congr 1; omega
    generalize d.armed n = s at *
    go_enter Try.func48, Try.ntmps48
    go_wp2
    refine end0 Try.results48 rfl ?_
    refine ⟨rfl, ?_, fun F hF => chg_set _ _ _ _ hF, set_size _ _ _⟩
    have hk := HK.out
    rw [hs.out] at hk ⊢
    exact H.out.set rfl rfl rfl rfl hk
  · have hs : Hid (d.armed n = { d with arm := n }) := by show _ = _; unfold Dk.armed; congr 1; omega
    generalize d.armed n = s at *
    go_enter Try.func48, Try.ntmps48
    go_wp2
    refine end0 Try.results48 rfl ?_
    refine ⟨rfl, ?_, fun F hF => chg_set _ _ _ _ hF, set_size _ _ _⟩
    have hk := HK.out
    rw [hs.out] at hk ⊢
    exact H.out.set rfl rfl rfl rfl hk
/-- A new disk. -/
theorem rd_new (w : World) (n : Nat) (hn : n ≤ 4096) : RDisk ((w.alloc (.cells (bcells (zeros (n * 512))).toArray 5)).alloc (.cells (rcells w.heap.size (.slice none 0 0) (Dk.fresh n)).toArray 49)) (w.heap.size + 1) w.heap.size (.slice none 0 0) [] (Dk.fresh n) := by
  have s1 : (w.alloc (.cells (bcells (zeros (n * 512))).toArray 5)).heap.size = w.heap.size + 1 := by simp
  have b0 := Blk.new w (bcells (zeros (n * 512))) 5
  have b1 := Blk.new (w.alloc (.cells (bcells (zeros (n * 512))).toArray 5)) (rcells w.heap.size (.slice none 0 0) (Dk.fresh n)) 49
  rw [s1] at b1
  refine ⟨b1, ?_, World.ownsRow_nil _ _ _ _, rfl, fun x hx => (by cases hx), fun x hx => (by cases hx), by omega, by simp [Value.ownBlock], by simp [Value.ownBlock], Dk.fresh_ok hn⟩
  have e : flatL (Dk.fresh n).last (Dk.fresh n).pages = zeros (n * 512) := flatL_zero n
  rw [e]
  exact b0.alloc _
set_option maxHeartbeats 1000000 in
theorem rnew_bad (n : Int) (w : World) (hn : n < 1 ∨ 4096 < n) :
    Calls Try.prog 12 #[.int .i64 n] w fun e w' => e = .returned (.tuple #[.pointer none, .int .i64 2]) ∧ w' = w := by
  by_cases h1 : n < 1
  · clear hn
    go_enter Try.func12, Try.ntmps12
    go_wp2
    go_ret2
    exact ⟨rfl, rfl⟩
  · have h2 : 4096 < n := by omega
    clear hn
    go_enter Try.func12, Try.ntmps12
    go_wp2
    go_ret2
    exact ⟨rfl, rfl⟩
set_option maxHeartbeats 1000000 in
theorem rnew_ok (n : Nat) (w : World) (h1 : 1 ≤ n) (h2 : n ≤ 4096) :
    Calls Try.prog 12 #[.int .i64 (n : Int)] w fun e w' => e = .returned (.tuple #[.pointer (some ⟨w.heap.size + 1, 0, none⟩), .int .i64 0]) ∧ RD w' (w.heap.size + 1) (fun k => w.heap.size ≤ k ∧ k < w'.heap.size) (Dk.fresh n) ∧ w'.heap.size = w.heap.size + 2 ∧ Below w.heap.size w w' := by
  have P := hid (rd_new w n h2)
  have hmk := mk_bytes (n * 512) (by omega) w
  have e : ((n * 512 : Nat) : Int) = (n : Int) * 512 := by omega
  rw [e] at hmk
  have n1 : (1 : Int) ≤ (n : Int) := by omega
  have n2 : (n : Int) ≤ 4096 := by omega
  clear e
  go_enter Try.func12, Try.ntmps12
  go_wp2
  go_ret2
  refine ⟨rfl, ⟨_, _, _, P.out, fun k hk => ?_⟩, by simp, ?_⟩
  · rcases hk with rfl | rfl | hk | ⟨x, hx, _⟩
    · simp
    · refine ⟨Nat.le_refl _, ?_⟩
      simp
      omega
    · cases hk
    · cases hx
  · exact ((Below.refl _ _).alloc (Nat.le_refl _) _).alloc (by simp) _
end Go.Proofs.Ytnecigbncggogaa
