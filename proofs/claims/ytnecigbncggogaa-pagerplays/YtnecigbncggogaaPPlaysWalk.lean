/- What PagerPlays does: whatever number of pages and acts it is called with, it answers true and leaves memory as it was. Condition: the bools of each act lie within the reach. -/
import Derived.Test.YtnecigbncggogaaPgJoinB
import Derived.Test.YtnecigbncggogaaPgOpenX
import Derived.Deep.RegionHeldLaw
namespace Go.Proofs.Ytnecigbncggogaa
open Go.RowKit
set_option linter.unusedVariables false
set_option maxRecDepth 20000

theorem Ops6.lt {w : World} {g : Nat} {o : Nat} {x : Opy} (h : OpAt6 w g o x) : True := trivial
/-- What is at hand behind an act. -/
def Aft (s : Nat) (w0 w : World) (xb c : Nat) (d : Dk) (db rb : Nat) (pv qv : Value) (o : Option Pk) (Z : Nat → Prop) : Prop := T2 s w0 w db rb d d Z ∧ Blk w xb (xcells db rb pv qv) 39 ∧ Z xb ∧ s ≤ xb ∧ Two s Z w db rb xb d c o pv qv
theorem Aft.below {s : Nat} {w0 w w' : World} {xb c : Nat} {d : Dk} {db rb : Nat} {pv qv : Value} {o : Option Pk} {Z : Nat → Prop} (h : Aft s w0 w xb c d db rb pv qv o Z) (B : Below w.heap.size w w') : Aft s w0 w' xb c d db rb pv qv o Z := ⟨h.1.grow B, h.2.1.below B h.2.1.lt, h.2.2.1, h.2.2.2.1, h.2.2.2.2.same B⟩
theorem Aft.x {s : Nat} {w0 w : World} {xb c : Nat} {d : Dk} {db rb : Nat} {pv qv : Value} {o : Option Pk} {Z : Nat → Prop} (h : Aft s w0 w xb c d db rb pv qv o Z) : w.cell? ⟨xb, 0, none⟩ = some (.pointer (some ⟨db, 0, none⟩)) ∧ w.cell? ⟨xb, 1, none⟩ = some pv ∧ w.cell? ⟨xb, 2, none⟩ = some (.pointer (some ⟨rb, 0, none⟩)) ∧ w.cell? ⟨xb, 3, none⟩ = some qv ∧ w.cell? ⟨rb, 3, none⟩ = some (.bool d.down) := ⟨h.2.1.cell 0, h.2.1.cell 1, h.2.1.cell 2, h.2.1.cell 3, h.1.downR⟩
theorem BW.below {s : Nat} {w0 w w' : World} {xb c : Nat} {d : Dk} (h : BW s w0 w xb d c) (B : Below w.heap.size w w') : BW s w0 w' xb d c := by
  obtain ⟨db, rb, pv, qv, o, Z, T, X, hz, hs, W⟩ := h
  exact ⟨db, rb, pv, qv, o, Z, T.grow B, X.below B X.lt, hz, hs, W.same B⟩
theorem BW.bel {s : Nat} {w0 w : World} {xb c : Nat} {d : Dk} (h : BW s w0 w xb d c) : Below s w0 w := by
  obtain ⟨db, rb, pv, qv, o, Z, T, _⟩ := h
  exact T.bel
theorem lt_big {a b k : Nat} (h1 : b ≤ 10 + 3 * k) (h2 : a ≤ b + 3) (h3 : k < 40) : a < 1000000 := by omega
theorem le_big {a b k : Nat} (h1 : b ≤ 10 + 3 * k) (h2 : a ≤ b + 3) : a ≤ 10 + 3 * (k + 1) := by omega
theorem Bits.old {w : World} {p : Option Addr} {l : List Bool} (h : Bits w p l) : l ≠ [] → ∀ b off, p = some ⟨b, off, none⟩ → b < w.heap.size := by
  intro hn b off e
  rcases h with h | ⟨g, o, hp, hc⟩
  · exact absurd h hn
  · rw [hp] at e
    simp only [Option.some.injEq, Addr.mk.injEq, and_true] at e
    have h5 : g < w.heap.size := cell_lt (hc 0 (List.length_pos_iff.2 hn))
    omega
/-- An operation that yields its value wherever the condition holds is taken first; its slot is named. -/
theorem wpAnyH_takeT {P : Program} {md : Region.Mode} {ops : Array Oper} {Q : Exit → Act → World → Prop} {S : World → Prop} {i t : Nat} {oi : Oper} {v : Value} {fuel : Nat} {listed : Array Bool} {a : Act} {w : World} (hi : ops[i]? = some oi) (hd : oi.dst = some t)
    (hs : Region.noSelect ops = true) (hf : Region.free md ops listed i = true) (hr : (Region.ready md ops listed).contains i = true)
    (hQ : ∀ c a w, Q (.panic c) (a.put (some t) v) w → Q (.panic c) a w) (hy : YieldsIf P ops S oi v a) (hS : S w)
    (h : wpAnyH P md ops Q S fuel (listed.setIfInBounds i true) (a.put (some t) v) w) : wpAnyH P md ops Q S (fuel + 1) listed a w :=
  wpAnyH_take hi hs hf hr (by rw [hd]; exact hQ) hy hS (by rw [hd]; exact h)
/-- A stronger condition may be held from here on. -/
theorem wpAnyH_stronger {P : Program} {md : Region.Mode} {ops : Array Oper} {Q : Exit → Act → World → Prop} {S S' : World → Prop} (h : ∀ w, S' w → S w) : ∀ {fuel : Nat} {listed : Array Bool} {a : Act} {w : World}, wpAnyH P md ops Q S' fuel listed a w → wpAnyH P md ops Q S fuel listed a w
  | 0, _, _, _, q => q
  | fuel + 1, _, _, _, q => ⟨q.1, fun i hi => wpOp_mono (fun a' w' r => ⟨h w' r.1, wpAnyH_stronger h r.2⟩) (q.2 i hi)⟩
set_option maxHeartbeats 8000000 in
theorem pplays_walk (pages : Int) (l : List Opy) (p : Option Addr) (c : Nat) (w : World) (hL : Ops6 w p l) (hl : l.length ≤ maxLen) (hK : ∀ x ∈ l, x.keep.length ≤ 140737488351232) :
    Calls Try.prog 4 #[.int .i64 pages, .slice p l.length c] w fun e w' => e = .returned (.bool true) ∧ Below w.heap.size w w' := by
  obtain ⟨Q, hq, hq1⟩ : ∃ Q : Nat, wrap64 ((IntKind.u64.wrap pages).tmod 12) = (Q : Int) ∧ (Q : Int) < 12 := by
    have := umod_bd pages 12 (by omega) (by omega)
    exact ⟨(wrap64 ((IntKind.u64.wrap pages).tmod 12)).toNat, by omega, by omega⟩
  have HN1 : Hid (Calls Try.prog 11 #[.int .i64 (1 + (Q : Int))] w fun e w' => ∃ db, e = .returned (.tuple #[.pointer (some ⟨db, 0, none⟩), .int .i64 0]) ∧ PD w' db (fun k => w.heap.size ≤ k ∧ k < w'.heap.size) (Dk.fresh (1 + Q)) ∧ Below w.heap.size w w') := by
    have N1 := newD (1 + (Q : Int)) w (by omega) (by omega)
    rw [show (1 + (Q : Int)).toNat = 1 + Q by omega] at N1
    exact N1.mono (fun e w' x => ⟨_, x.1, x.2.1, x.2.2.2⟩)
  have HN2 : Hid (∀ w1 : World, Calls Try.prog 12 #[.int .i64 (1 + (Q : Int))] w1 fun e w' => ∃ rb, e = .returned (.tuple #[.pointer (some ⟨rb, 0, none⟩), .int .i64 0]) ∧ RD w' rb (fun k => w1.heap.size ≤ k ∧ k < w'.heap.size) (Dk.fresh (1 + Q)) ∧ Below w1.heap.size w1 w') := fun w1 => by
    have := rnew_ok (1 + Q) w1 (by omega) (by omega)
    rw [show (((1 + Q : Nat)) : Int) = 1 + (Q : Int) by omega] at this
    exact this.mono (fun e w' x => ⟨_, x.1, x.2.1, x.2.2.2⟩)
  have HC3 : Hid (∀ (w5 : World) (xb db rb : Nat) (pv qv : Value) (d : Dk) (Z : Nat → Prop), T2 w.heap.size w w5 db rb d d Z → Blk w5 xb (xcells db rb pv qv) 39 → Z xb → w.heap.size ≤ xb → d.pend.length < 1000000 → Calls Try.prog 13 #[.pointer (some ⟨xb, 0, none⟩)] w5 fun e w' => e = .returned (.bool true) ∧ BX w.heap.size w w' xb db rb d 0) := fun w5 xb db rb pv qv d Z t x z s hm => opens_full xb pv qv t x z s hm
  have HF := hid (Dk.fresh (1 + Q)).fmt_rest
  have HM6 : Hid ((Dk.fresh (1 + Q)).fmt.pend.length < 1000000) := by
    have := HF.out.2
    have e : (Dk.fresh (1 + Q)).pend.length = 0 := rfl
    show _ < _
    omega
  have HL := hid hL
  have HK := hid hK
  clear hL hK
  go_enter Try.func4, Try.ntmps4
  go_wp2_with (first
    | (go_at_call 11; go_loud (with_reducible refine HN1.out.mono ?_); rintro e w1 ⟨db, rfl, P1, B1⟩; have HP1 := hid P1; have HB1 := hid B1; clear P1 B1)
    | (go_at_call 12; go_loud (with_reducible refine (HN2.out _).mono ?_); rintro e w2 ⟨rb, rfl, R2, B2⟩; have HT2 := hid (T2.made HP1.out HB1.out R2 B2); have HX2 := hid (Blk.new w2 (xcells db rb (.pointer none) (.pointer none)) 39); have HB2 : Hid (Below w2.heap.size w2 (w2.alloc (.cells (xcells db rb (.pointer none) (.pointer none)).toArray 39))) := (Below.refl _ _).alloc (Nat.le_refl _) _; have HT3 := hid (HT2.out.add HB2.out); have HL3 := hid HX2.out.lt; clear R2 B2)
    | (go_at_call 13; first
        | (with_reducible refine (HC3.out _ w2.heap.size db rb pv4 qv4 _ Z4 HT6.out HX6.out HZ4.out HS4.out HM6.out).mono ?_; rintro e w7 ⟨rfl, X7⟩; have HX7 := hid X7; clear X7)
        | (refine (HC3.out _ w2.heap.size db rb _ _ _ _ HT3.out HX2.out (Or.inr ⟨Nat.le_refl _, HL3.out⟩) HT2.out.size (by show 0 < 1000000; decide)).mono ?_; rintro e w4 ⟨rfl, ⟨pv4, qv4, o4, Z4, T4, X4, z4, s4, W4⟩⟩; have HT4 := hid T4; have HX4 := hid X4; have HZ4 := hid z4; have HS4 := hid s4; have HFL := hid (T4.formatL (by show 0 < 999990; decide)); clear T4 X4 z4 s4 W4))
    | (go_at_call 14; go_loud (with_reducible refine HFL.out.mono ?_); rintro e w5 ⟨rfl, T5, K5⟩; have HX5 := hid (K5.blk HX4.out (Or.inr HZ4.out)); have HFR := hid (T5.formatR (by show 0 < 999990; decide)); clear T5 K5)
    | (go_at_call 15; go_loud (with_reducible refine HFR.out.mono ?_); rintro e w6 ⟨rfl, T6, K6⟩; have HX6 := hid (K6.blk HX5.out (Or.inr HZ4.out)); have HT6 := hid T6; skip; clear T6 K6)
    | fail)
  have HW7 := hid HX7.out.bw
  have HF2 : Hid ((Dk.fresh (1 + Q)).fmt.pages = 1 + Q ∧ (Dk.fresh (1 + Q)).fmt.pend.length ≤ 10) := ⟨HF.out.1, by have := HF.out.2; have e : (Dk.fresh (1 + Q)).pend.length = 0 := rfl; omega⟩
  have hQ : (Q : Int) < 12 := hq1
  clear hq HN1 HN2 HC3 HF HP1 HB1 HT2 HX2 HB2 HT3 HL3 HT4 HX4 HZ4 HS4 HFL HX5 HFR HX6 HT6 HM6 HX7
  generalize w2.heap.size = xb at *
  go_loopw [10] (fun i wr => ∃ (k : Nat) (d : Dk), k ≤ 40 ∧ i = .int .i64 (k : Int) ∧ BW w.heap.size w wr xb d k ∧ d.pages = 1 + Q ∧ d.pend.length ≤ 10 + 3 * k) (fun i _ => 40 - (RowKit.intOf i).toNat)
  case atStart => exact ⟨0, _, by decide, rfl, HW7.out, HF2.out.1, HF2.out.2⟩
  case round =>
    clear HW7 HF2
    obtain ⟨k, d, hk, rfl, hW, hp, hpd⟩ := hrel
    have HW := hid hW
    by_cases hx : k < l.length ∧ k < 40
    · obtain ⟨hx1, hx2⟩ := hx
      obtain ⟨g, off, rfl, hat⟩ := HL.out.at hx1
      have hx1' : (k : Int) < (l.length : Int) := by omega
      have hx2' : (k : Int) < 40 := by omega
      obtain ⟨bp, bc, kp, kc, c0, c1, c2, c3, c4, c5, hby, hbi, hn, hkd, hbc, hkc⟩ := hat
      have hkl := HK.out _ (List.getElem_mem hx1)
      have hB := hW.bel
      have cc : ∀ {j v}, w.cell? ⟨g, j, none⟩ = some v → wr.cell? ⟨g, j, none⟩ = some v := fun {j v} hc => (World.cell?_of_block (w := w) (a := ⟨g, j, none⟩) (hB.block g (cell_lt hc))).trans hc
      have e0 := cc c0
      have e1 := cc c1
      have e2 := cc c2
      have e3 := cc c3
      have e4 := cc c4
      have e5 := cc c5
      have CA := hid (act_any xb k (hW.below (Below.refl _ _).drew) (by omega) (by omega) l[k].kind l[k].n l[k].torn l[k].cut bp kp l[k].b l[k].keep bc kc hn.2 ((hby.below hB).drew) (fun w5 B => hbi.below B) hbi.old hkl hkc)
      have HC : Hid (∀ w5 : World, Below w.heap.size w w5 → w5.cell? ⟨g, off + k * 6, none⟩ = some (.int .i64 l[k].kind) ∧ w5.cell? ⟨g, off + k * 6 + 1, none⟩ = some (.int .i64 l[k].n) ∧ w5.cell? ⟨g, off + k * 6 + 2, none⟩ = some (.slice bp l[k].b.length bc) ∧ w5.cell? ⟨g, off + k * 6 + 3, none⟩ = some (.slice kp l[k].keep.length kc) ∧ w5.cell? ⟨g, off + k * 6 + 4, none⟩ = some (.int .i64 l[k].torn) ∧ w5.cell? ⟨g, off + k * 6 + 5, none⟩ = some (.int .i64 l[k].cut)) := fun w5 B => by
        have cd : ∀ {j v}, w.cell? ⟨g, j, none⟩ = some v → w5.cell? ⟨g, j, none⟩ = some v := fun {j v} hc => (World.cell?_of_block (w := w) (a := ⟨g, j, none⟩) (B.block g (cell_lt hc))).trans hc
        exact ⟨cd c0, cd c1, cd c2, cd c3, cd c4, cd c5⟩
      have HPd : Hid (d.pages = 1 + Q ∧ d.pend.length ≤ 10 + 3 * k) := ⟨hp, hpd⟩
      generalize l[k] = x at *
      clear hW hp hpd hby hbi hn hkd hbc hkc hkl hB c0 c1 c2 c3 c4 c5 cc
      unfold actEnd at CA
      go_wp2
      refine wp_region_held_drew (S := fun w' => w'.cell? ⟨g, off + k * 6, none⟩ = some (.int .i64 x.kind) ∧ w'.cell? ⟨g, off + k * 6 + 1, none⟩ = some (.int .i64 x.n) ∧ w'.cell? ⟨g, off + k * 6 + 2, none⟩ = some (.slice bp x.b.length bc) ∧ w'.cell? ⟨g, off + k * 6 + 3, none⟩ = some (.slice kp x.keep.length kc) ∧ w'.cell? ⟨g, off + k * 6 + 4, none⟩ = some (.int .i64 x.torn) ∧ w'.cell? ⟨g, off + k * 6 + 5, none⟩ = some (.int .i64 x.cut)) (by kernel_rfl) ⟨e0, e1, e2, e3, e4, e5⟩ (fun hHeld => ?_)
      refine wpAnyH_takeT (i := 0) (t := 67) (v := ?_) rfl rfl (by kernel_rfl) (by kernel_rfl) (by kernel_rfl) (fun _ _ _ h => h) (Or.inl ⟨by rfl, ?_⟩) (by assumption) ?_
      rotate_left
      · intro wq hSw
        try dsimp only at hSw
        go_simp
        try with_reducible rfl
      try go_frame
      refine wpAnyH_takeT (i := 1) (t := 68) (v := ?_) rfl rfl (by kernel_rfl) (by kernel_rfl) (by kernel_rfl) (fun _ _ _ h => h) (Or.inl ⟨by rfl, ?_⟩) (by assumption) ?_
      rotate_left
      · intro wq hSw
        try dsimp only at hSw
        go_simp
        try with_reducible rfl
      try go_frame
      refine wpAnyH_takeT (i := 2) (t := 69) (v := ?_) rfl rfl (by kernel_rfl) (by kernel_rfl) (by kernel_rfl) (fun _ _ _ h => h) (Or.inl ⟨by rfl, ?_⟩) (by assumption) ?_
      rotate_left
      · intro wq hSw
        try dsimp only at hSw
        go_simp
        try with_reducible rfl
      try go_frame
      refine wpAnyH_takeT (i := 3) (t := 70) (v := ?_) rfl rfl (by kernel_rfl) (by kernel_rfl) (by kernel_rfl) (fun _ _ _ h => h) (Or.inl ⟨by rfl, ?_⟩) (by assumption) ?_
      rotate_left
      · intro wq hSw
        try dsimp only at hSw
        go_simp
        try with_reducible rfl
      try go_frame
      refine wpAnyH_takeT (i := 4) (t := 71) (v := ?_) rfl rfl (by kernel_rfl) (by kernel_rfl) (by kernel_rfl) (fun _ _ _ h => h) (Or.inl ⟨by rfl, ?_⟩) (by assumption) ?_
      rotate_left
      · intro wq hSw
        try dsimp only at hSw
        go_simp
        try with_reducible rfl
      try go_frame
      refine wpAnyH_ready (rs := [5]) (by kernel_rfl) (by simp) ?_
      refine AllReadyH.cons rfl (fun K hK => ?_) AllReadyH.nil
      go_simp
      go_wp2_with (first
        | (go_at_call 16; go_loud (with_reducible refine CA.out.mono ?_); rintro e w3 ⟨rfl, d', ⟨db3, rb3, pv, qv, o, Z, A3⟩, hp3, hd3⟩; have HA3 : Hid (Aft w.heap.size w w3 xb (k + 1) d' db3 rb3 pv qv o Z) := hid A3; have HP3 := hid hp3; have HD3 := hid (lt_big HPd.out.2 hd3 hx2); have HE3 := hid (le_big HPd.out.2 hd3); clear A3 hp3 hd3)
        | fail)
      refine hK.out _ _ (HC.out w3 HA3.out.1.bel) (fun hHeld3 => ?_)
      clear hK K hHeld CA e0 e1 e2 e3 e4 e5
      obtain ⟨a0, a1, a2, a3, a4⟩ := HA3.out.x
      refine wpAnyH_stronger (S' := fun w' => (w'.cell? ⟨g, off + k * 6, none⟩ = some (.int .i64 x.kind) ∧ w'.cell? ⟨g, off + k * 6 + 1, none⟩ = some (.int .i64 x.n) ∧ w'.cell? ⟨g, off + k * 6 + 2, none⟩ = some (.slice bp x.b.length bc) ∧ w'.cell? ⟨g, off + k * 6 + 3, none⟩ = some (.slice kp x.keep.length kc) ∧ w'.cell? ⟨g, off + k * 6 + 4, none⟩ = some (.int .i64 x.torn) ∧ w'.cell? ⟨g, off + k * 6 + 5, none⟩ = some (.int .i64 x.cut)) ∧ w'.cell? ⟨xb, 0, none⟩ = some (.pointer (some ⟨db3, 0, none⟩)) ∧ w'.cell? ⟨xb, 2, none⟩ = some (.pointer (some ⟨rb3, 0, none⟩)) ∧ w'.cell? ⟨rb3, 3, none⟩ = some (.bool d'.down)) (fun _ h => h.1) ?_
      have hHeld := And.intro hHeld3 (And.intro a0 (And.intro a2 a4))
      clear hHeld3 a0 a1 a2 a3 a4
      have HDn := hid HA3.out.1.downL
      have HIL := hid HA3.out.1.imageL
      refine wpAnyH_takeT (i := 6) (t := 73) (v := ?_) rfl rfl (by kernel_rfl) (by kernel_rfl) (by kernel_rfl) (fun _ _ _ h => h) (Or.inl ⟨by rfl, ?_⟩) (by assumption) ?_
      rotate_left
      · intro wq hSw
        try dsimp only at hSw
        go_simp
        try with_reducible rfl
      try go_frame
      refine wpAnyH_takeT (i := 7) (t := 74) (v := ?_) rfl rfl (by kernel_rfl) (by kernel_rfl) (by kernel_rfl) (fun _ _ _ h => h) (Or.inl ⟨by rfl, ?_⟩) (by assumption) ?_
      rotate_left
      · intro wq hSw
        try dsimp only at hSw
        go_simp
        try with_reducible rfl
      try go_frame
      refine wpAnyH_takeT (i := 8) (t := 75) (v := ?_) rfl rfl (by kernel_rfl) (by kernel_rfl) (by kernel_rfl) (fun _ _ _ h => h) (Or.inl ⟨by rfl, ?_⟩) (by assumption) ?_
      rotate_left
      · intro wq hSw
        try dsimp only at hSw
        go_simp
        try with_reducible rfl
      try go_frame
      refine wpAnyH_takeT (i := 9) (t := 76) (v := ?_) rfl rfl (by kernel_rfl) (by kernel_rfl) (by kernel_rfl) (fun _ _ _ h => h) (Or.inl ⟨by rfl, ?_⟩) (by assumption) ?_
      rotate_left
      · intro wq hSw
        try dsimp only at hSw
        go_simp
        try with_reducible rfl
      try go_frame
      refine wpAnyH_takeT (i := 10) (t := 77) (v := ?_) rfl rfl (by kernel_rfl) (by kernel_rfl) (by kernel_rfl) (fun _ _ _ h => h) (Or.inl ⟨by rfl, ?_⟩) (by assumption) ?_
      rotate_left
      · intro wq hSw
        try dsimp only at hSw
        go_simp
        try with_reducible rfl
      try go_frame
      refine wpAnyH_takeT (i := 11) (t := 78) (v := ?_) rfl rfl (by kernel_rfl) (by kernel_rfl) (by kernel_rfl) (fun _ _ _ h => h) (Or.inl ⟨by rfl, ?_⟩) (by assumption) ?_
      rotate_left
      · intro wq hSw
        try dsimp only at hSw
        go_simp
        try with_reducible rfl
      try go_frame
      refine wpAnyH_takeT (i := 13) (t := 80) (v := ?_) rfl rfl (by kernel_rfl) (by kernel_rfl) (by kernel_rfl) (fun _ _ _ h => h) (Or.inl ⟨by rfl, ?_⟩) (by assumption) ?_
      rotate_left
      · intro wq hSw
        try dsimp only at hSw
        go_simp
        try with_reducible rfl
      try go_frame
      refine wpAnyH_takeT (i := 14) (t := 81) (v := ?_) rfl rfl (by kernel_rfl) (by kernel_rfl) (by kernel_rfl) (fun _ _ _ h => h) (Or.inl ⟨by rfl, ?_⟩) (by assumption) ?_
      rotate_left
      · intro wq hSw
        try dsimp only at hSw
        go_simp
        try with_reducible rfl
      try go_frame
      refine wpAnyH_takeT (i := 15) (t := 82) (v := ?_) rfl rfl (by kernel_rfl) (by kernel_rfl) (by kernel_rfl) (fun _ _ _ h => h) (Or.inl ⟨by rfl, ?_⟩) (by assumption) ?_
      rotate_left
      · intro wq hSw
        try dsimp only at hSw
        go_simp
        try with_reducible rfl
      try go_frame
      refine wpAnyH_takeT (i := 16) (t := 83) (v := ?_) rfl rfl (by kernel_rfl) (by kernel_rfl) (by kernel_rfl) (fun _ _ _ h => h) (Or.inl ⟨by rfl, ?_⟩) (by assumption) ?_
      rotate_left
      · intro wq hSw
        try dsimp only at hSw
        go_simp
        try with_reducible rfl
      try go_frame
      refine wpAnyH_takeT (i := 17) (t := 84) (v := ?_) rfl rfl (by kernel_rfl) (by kernel_rfl) (by kernel_rfl) (fun _ _ _ h => h) (Or.inl ⟨by rfl, ?_⟩) (by assumption) ?_
      rotate_left
      · intro wq hSw
        try dsimp only at hSw
        go_simp
        try with_reducible rfl
      try go_frame
      refine wpAnyH_takeT (i := 18) (t := 85) (v := ?_) rfl rfl (by kernel_rfl) (by kernel_rfl) (by kernel_rfl) (fun _ _ _ h => h) (Or.inl ⟨by rfl, ?_⟩) (by assumption) ?_
      rotate_left
      · intro wq hSw
        try dsimp only at hSw
        go_simp
        try with_reducible rfl
      try go_frame
      refine wpAnyH_takeT (i := 19) (t := 86) (v := ?_) rfl rfl (by kernel_rfl) (by kernel_rfl) (by kernel_rfl) (fun _ _ _ h => h) (Or.inl ⟨by rfl, ?_⟩) (by assumption) ?_
      rotate_left
      · intro wq hSw
        try dsimp only at hSw
        go_simp
        try with_reducible rfl
      try go_frame
      refine wpAnyH_ready (rs := [12]) (by kernel_rfl) (by simp) ?_
      refine AllReadyH.cons rfl (fun K hK => ?_) AllReadyH.nil
      go_simp
      go_wp2_with (first
        | (go_at_call 17; go_loud (with_reducible refine HDn.out.mono ?_); rintro e wq ⟨rfl, hw⟩; subst wq)
        | fail)
      refine hK.out _ _ hHeld (fun _ => ?_)
      clear hK K
      refine wpAnyH_takeT (i := 20) (t := 87) (v := ?_) rfl rfl (by kernel_rfl) (by kernel_rfl) (by kernel_rfl) (fun _ _ _ h => h) (Or.inl ⟨by rfl, ?_⟩) (by assumption) ?_
      rotate_left
      · intro wq hSw
        try dsimp only at hSw
        go_simp
        try with_reducible rfl
      try go_frame
      refine wpAnyH_takeT (i := 21) (t := 88) (v := ?_) rfl rfl (by kernel_rfl) (by kernel_rfl) (by kernel_rfl) (fun _ _ _ h => h) (Or.inl ⟨by rfl, ?_⟩) (by assumption) ?_
      rotate_left
      · intro wq hSw
        try dsimp only at hSw
        go_simp
        try with_reducible rfl
      try go_frame
      refine wpAnyH_takeT (i := 22) (t := 89) (v := ?_) rfl rfl (by kernel_rfl) (by kernel_rfl) (by kernel_rfl) (fun _ _ _ h => h) (Or.inl ⟨by rfl, ?_⟩) (by assumption) ?_
      rotate_left
      · intro wq hSw
        try dsimp only at hSw
        go_simp
        try with_reducible rfl
      try go_frame
      refine wpAnyH_takeT (i := 23) (t := 90) (v := ?_) rfl rfl (by kernel_rfl) (by kernel_rfl) (by kernel_rfl) (fun _ _ _ h => h) (Or.inl ⟨by rfl, ?_⟩) (by assumption) ?_
      rotate_left
      · intro wq hSw
        try dsimp only at hSw
        go_simp
        try with_reducible rfl
      try go_frame
      refine wpAnyH_takeT (i := 24) (t := 91) (v := ?_) rfl rfl (by kernel_rfl) (by kernel_rfl) (by kernel_rfl) (fun _ _ _ h => h) (Or.inl ⟨by rfl, ?_⟩) (by assumption) ?_
      rotate_left
      · intro wq hSw
        try dsimp only at hSw
        go_simp
        try with_reducible rfl
      try go_frame
      refine wpAnyH_takeT (i := 25) (t := 92) (v := ?_) rfl rfl (by kernel_rfl) (by kernel_rfl) (by kernel_rfl) (fun _ _ _ h => h) (Or.inl ⟨by rfl, ?_⟩) (by assumption) ?_
      rotate_left
      · intro wq hSw
        try dsimp only at hSw
        go_simp
        try with_reducible rfl
      try go_frame
      refine wpAnyH_takeT (i := 26) (t := 93) (v := ?_) rfl rfl (by kernel_rfl) (by kernel_rfl) (by kernel_rfl) (fun _ _ _ h => h) (Or.inl ⟨by rfl, ?_⟩) (by assumption) ?_
      rotate_left
      · intro wq hSw
        try dsimp only at hSw
        go_simp
        try with_reducible rfl
      try go_frame
      refine wpAnyH_takeT (i := 29) (t := 96) (v := ?_) rfl rfl (by kernel_rfl) (by kernel_rfl) (by kernel_rfl) (fun _ _ _ h => h) (Or.inl ⟨by rfl, ?_⟩) (by assumption) ?_
      rotate_left
      · intro wq hSw
        try dsimp only at hSw
        go_simp
        try with_reducible rfl
      try go_frame
      refine wpAnyH_takeT (i := 30) (t := 97) (v := ?_) rfl rfl (by kernel_rfl) (by kernel_rfl) (by kernel_rfl) (fun _ _ _ h => h) (Or.inl ⟨by rfl, ?_⟩) (by assumption) ?_
      rotate_left
      · intro wq hSw
        try dsimp only at hSw
        go_simp
        try with_reducible rfl
      try go_frame
      refine wpAnyH_takeT (i := 31) (t := 98) (v := ?_) rfl rfl (by kernel_rfl) (by kernel_rfl) (by kernel_rfl) (fun _ _ _ h => h) (Or.inl ⟨by rfl, ?_⟩) (by assumption) ?_
      rotate_left
      · intro wq hSw
        try dsimp only at hSw
        go_simp
        try with_reducible rfl
      try go_frame
      refine wpAnyH_takeT (i := 32) (t := 99) (v := ?_) rfl rfl (by kernel_rfl) (by kernel_rfl) (by kernel_rfl) (fun _ _ _ h => h) (Or.inl ⟨by rfl, ?_⟩) (by assumption) ?_
      rotate_left
      · intro wq hSw
        try dsimp only at hSw
        go_simp
        try with_reducible rfl
      try go_frame
      refine wpAnyH_ready (rs := [27]) (by kernel_rfl) (by simp) ?_
      refine AllReadyH.cons rfl (fun K hK => ?_) AllReadyH.nil
      go_simp
      go_wp2_with (first
        | (go_at_call 18; go_loud (with_reducible refine HIL.out.mono ?_); rintro e w4 ⟨⟨p4, q4, rfl, y4⟩, B4⟩; have HA4 := hid (HA3.out.below B4); have HY4 := hid y4; have HIR := hid (HA4.out.1.imageR HD3.out); clear y4 B4)
        | fail)
      have hS4 := HC.out w4 HA4.out.1.bel
      obtain ⟨b0, b1, b2, b3, b4⟩ := HA4.out.x
      refine hK.out _ _ ⟨hS4, b0, b2, b4⟩ (fun _ => ?_)
      clear hK K hHeld
      have v4 := conv_byts q4 HY4.out
      refine wpAnyH_stronger (S' := fun w' => (w'.cell? ⟨g, off + k * 6, none⟩ = some (.int .i64 x.kind) ∧ w'.cell? ⟨g, off + k * 6 + 1, none⟩ = some (.int .i64 x.n) ∧ w'.cell? ⟨g, off + k * 6 + 2, none⟩ = some (.slice bp x.b.length bc) ∧ w'.cell? ⟨g, off + k * 6 + 3, none⟩ = some (.slice kp x.keep.length kc) ∧ w'.cell? ⟨g, off + k * 6 + 4, none⟩ = some (.int .i64 x.torn) ∧ w'.cell? ⟨g, off + k * 6 + 5, none⟩ = some (.int .i64 x.cut)) ∧ w'.cell? ⟨xb, 0, none⟩ = some (.pointer (some ⟨db3, 0, none⟩)) ∧ w'.cell? ⟨xb, 2, none⟩ = some (.pointer (some ⟨rb3, 0, none⟩)) ∧ w'.cell? ⟨rb3, 3, none⟩ = some (.bool d'.down) ∧ (convert 22 9 (.slice p4 d'.img.length q4)).run Try.prog w' = .ok (.string ⟨d'.img.toArray⟩) w') (fun _ h => ⟨h.1, h.2.1, h.2.2.1, h.2.2.2.1⟩) ?_
      have hHeld := And.intro hS4 (And.intro b0 (And.intro b2 (And.intro b4 v4)))
      clear hS4 b0 b1 b2 b3 b4 v4
      refine wpAnyH_takeT (i := 28) (t := 95) (v := ?_) rfl rfl (by kernel_rfl) (by kernel_rfl) (by kernel_rfl) (fun _ _ _ h => h) (Or.inl ⟨by rfl, ?_⟩) (by assumption) ?_
      rotate_left
      · intro wq hSw
        try dsimp only at hSw
        go_simp
        try with_reducible rfl
      try go_frame
      refine wpAnyH_ready (rs := [33]) (by kernel_rfl) (by simp) ?_
      refine AllReadyH.cons rfl (fun K hK => ?_) AllReadyH.nil
      go_simp
      go_wp2_with (first
        | (go_at_call 19; go_loud (with_reducible refine HIR.out.mono ?_); rintro e w5 ⟨⟨p5, q5, rfl, y5⟩, B5⟩; have HA5 := hid (HA4.out.below B5); have HY5 := hid y5; have HY6 := hid (HY4.out.below B5); clear y5 B5)
        | fail)
      have hS5 := HC.out w5 HA5.out.1.bel
      obtain ⟨b0, b1, b2, b3, b4⟩ := HA5.out.x
      have v6 := conv_byts q4 HY6.out
      refine hK.out _ _ ⟨hS5, b0, b2, b4, v6⟩ (fun _ => ?_)
      clear hK K hHeld
      have v5 := conv_byts q5 HY5.out
      refine wpAnyH_stronger (S' := fun w' => (w'.cell? ⟨g, off + k * 6, none⟩ = some (.int .i64 x.kind) ∧ w'.cell? ⟨g, off + k * 6 + 1, none⟩ = some (.int .i64 x.n) ∧ w'.cell? ⟨g, off + k * 6 + 2, none⟩ = some (.slice bp x.b.length bc) ∧ w'.cell? ⟨g, off + k * 6 + 3, none⟩ = some (.slice kp x.keep.length kc) ∧ w'.cell? ⟨g, off + k * 6 + 4, none⟩ = some (.int .i64 x.torn) ∧ w'.cell? ⟨g, off + k * 6 + 5, none⟩ = some (.int .i64 x.cut)) ∧ w'.cell? ⟨xb, 0, none⟩ = some (.pointer (some ⟨db3, 0, none⟩)) ∧ w'.cell? ⟨xb, 2, none⟩ = some (.pointer (some ⟨rb3, 0, none⟩)) ∧ w'.cell? ⟨rb3, 3, none⟩ = some (.bool d'.down) ∧ (convert 22 9 (.slice p4 d'.img.length q4)).run Try.prog w' = .ok (.string ⟨d'.img.toArray⟩) w' ∧ (convert 22 9 (.slice p5 d'.img.length q5)).run Try.prog w' = .ok (.string ⟨d'.img.toArray⟩) w') (fun _ h => ⟨h.1, h.2.1, h.2.2.1, h.2.2.2.1, h.2.2.2.2.1⟩) ?_
      have hHeld := And.intro hS5 (And.intro b0 (And.intro b2 (And.intro b4 (And.intro v6 v5))))
      clear hS5 b0 b1 b2 b3 b4 v5 v6
      refine wpAnyH_takeT (i := 34) (t := 101) (v := ?_) rfl rfl (by kernel_rfl) (by kernel_rfl) (by kernel_rfl) (fun _ _ _ h => h) (Or.inl ⟨by rfl, ?_⟩) (by assumption) ?_
      rotate_left
      · intro wq hSw
        try dsimp only at hSw
        go_simp
        try with_reducible rfl
      try go_frame
      refine wpAnyH_takeT (i := 35) (t := 102) (v := ?_) rfl rfl (by kernel_rfl) (by kernel_rfl) (by kernel_rfl) (fun _ _ _ h => h) (Or.inl ⟨by rfl, ?_⟩) (by assumption) ?_
      rotate_left
      · intro wq hSw
        try dsimp only at hSw
        go_simp
        try with_reducible rfl
      try go_frame
      refine wpAnyH_takeT (i := 36) (t := 103) (v := ?_) rfl rfl (by kernel_rfl) (by kernel_rfl) (by kernel_rfl) (fun _ _ _ h => h) (Or.inl ⟨by rfl, ?_⟩) (by assumption) ?_
      rotate_left
      · intro wq hSw
        try dsimp only at hSw
        go_simp
        try with_reducible rfl
      try go_frame
      refine wpAnyH_done (by kernel_rfl) ?_ _
      have HBW : Hid (∀ w6 : World, Below w5.heap.size w5 w6 → BW w.heap.size w w6 xb d' (k + 1)) := fun w6 B => BW.below ⟨db3, rb3, pv, qv, o, Z, HA5.out⟩ B
      obtain ⟨f0, f1, f2, f3, f4⟩ := HA5.out.x
      have HPq : Hid ((d'.pages : Int) = 1 + (Q : Int)) := by show _ = _; rw [HP3.out, HPd.out.1]; omega
      have HPn : Hid (d'.pages = 1 + Q) := HP3.out.trans HPd.out.1
      have HT5 := hid HA5.out.1
      have W5 := HA5.out.2.2.2.2
      clear hHeld HC HDn HIL HIR HY4 HY5 HY6 HA4 HA3 HA5 f0 f2 f4
      cases o with
      | none =>
        obtain ⟨rfl, rfl⟩ := W5
        go_wp2
        go_roundw
        case rel => exact ⟨k + 1, d', hx2, by go_num, HBW.out w5 (Below.refl _ _), HPn.out, HE3.out⟩
        case measure => simp [RowKit.intOf]; omega
      | some kk =>
        obtain ⟨pb, qb, rfl, rfl, hP, hR, _⟩ := W5
        have HR := hid hR
        have HPg := hid hP
        have CR := hid (proot_any pb kk hP)
        have CP : Hid (∀ w6 : World, Below w5.heap.size w5 w6 → Calls Try.prog 21 #[.pointer (some ⟨pb, 0, none⟩)] w6 fun e w' => e = .returned (.int .i64 (1 + (Q : Int))) ∧ w' = w6) := fun w6 B => by
          have q := (HT5.out.grow B).ppagesL pb kk (HPg.out.below B)
          rw [HPq.out] at q
          exact q
        have HXc : Hid (∀ w6 : World, Below w5.heap.size w5 w6 → w6.cell? ⟨xb, 1, none⟩ = some (.pointer (some ⟨pb, 0, none⟩)) ∧ w6.cell? ⟨xb, 3, none⟩ = some (.pointer (some ⟨qb, 0, none⟩)) ∧ w6.cell? ⟨qb, 1, none⟩ = some (.int .i64 (kk.root : Int)) ∧ w6.cell? ⟨qb, 2, none⟩ = some (.int .i64 (kk.gen : Int))) := fun w6 B => by
          have q := (HR.out.below B).cells
          exact ⟨(World.cell?_of_block (w := w5) (a := ⟨xb, 1, none⟩) (B.block xb (cell_lt f1))).trans f1, (World.cell?_of_block (w := w5) (a := ⟨xb, 3, none⟩) (B.block xb (cell_lt f3))).trans f3, q.2.1, q.2.2.1⟩
        clear hP hR HT5 HPq HPg HR
        generalize (kk.root : Int) = rt at *
        generalize (kk.gen : Int) = gn at *
        go_wp2_with (first
          | (go_at_call 20; go_loud (with_reducible refine CR.out.mono ?_); rintro e w6 ⟨rfl, B6⟩; have HB6 := hid B6; have hx6 := HXc.out w6 B6; obtain ⟨m1, m2, m3, m4⟩ := hx6; have CP6 := hid (CP.out w6 B6); clear B6)
          | (go_at_call 21; go_loud (with_reducible refine CP6.out.mono ?_); rintro e w7 ⟨rfl, hw⟩; subst w7)
          | fail)
        go_roundw
        case rel => exact ⟨k + 1, d', hx2, by go_num, HBW.out w6 HB6.out, HPn.out, HE3.out⟩
        case measure => simp [RowKit.intOf]; omega
    · have hd : (¬ ((k : Int) < (l.length : Int))) ∨ ((k : Int) < (l.length : Int) ∧ ¬ ((k : Int) < 40)) := by omega
      clear hW hp hpd hx
      rcases hd with hd | ⟨hd, hd2⟩
      all_goals (
        go_wp2
        go_ret
        exact ⟨rfl, HW.out.bel⟩)
end Go.Proofs.Ytnecigbncggogaa
