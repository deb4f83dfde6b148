/- The walk of DiskArms. No conditions. -/
import Derived.Test.YtfgcjcffplglhaaDkMore
import Derived.Test.YtfgcjcffplglhaaDkPend
namespace Go.Proofs.Ytfgcjcffplglhaa
open Go.RowKit
set_option linter.unusedVariables false

theorem QP.bel {s : Nat} {w0 w : World} {db : Nat} {d : Dk} {ps : List (Nat × List UInt8)} (h : QP s w0 w db d ps) : Below s w0 w := h.1.bel
theorem wrap64_i64 (x : Int) : IntKind.i64.wrap x = wrap64 x := by rw [IntKind.wrap_i64]; unfold wrap64; omega
/-- Behind an Arm of q, j steps done, k acts made. -/
structure ArmAt (d : Dk) (q : Int) (j k : Nat) : Prop where
  pages : d.pages = 3
  len : d.pend.length ≤ k
  arm : (d.down = false ∧ d.arm = q - j ∧ (j : Int) ≤ q) ∨ (d.down = true ∧ (j : Int) = q)
theorem ArmAt.mono {d : Dk} {q : Int} {j k m : Nat} (h : ArmAt d q j k) (hm : k ≤ m) : ArmAt d q j m := ⟨h.pages, Nat.le_trans h.len hm, h.arm⟩
theorem ArmAt.start (q : Int) (h : 0 ≤ q) : ArmAt ((Dk.fresh 3).armed q) q 0 0 := ⟨rfl, Nat.le_refl _, Or.inl ⟨rfl, by show max q (-1) = q - ((0 : Nat) : Int); omega, by omega⟩⟩
theorem Dk.stepped_pend (d : Dk) : d.stepped.pend = d.pend := by unfold Dk.stepped; split <;> (try split) <;> rfl
theorem ArmAt.goes {d : Dk} {q : Int} {j k : Nat} (h : ArmAt d q j k) (hj : (j : Int) < q) : d.down = false ∧ d.arm ≠ 0 ∧ d.stepped = { d with arm := q - ((j + 1 : Nat) : Int) } := by
  rcases h.arm with ⟨h1, h2, h3⟩ | ⟨h1, h2⟩
  · refine ⟨h1, by omega, ?_⟩
    unfold Dk.stepped
    rw [if_neg (by omega), if_pos (by omega)]
    congr 1
    omega
  · omega
theorem ArmAt.wrGoes {d : Dk} {q n : Int} {j k : Nat} {b : List UInt8} (h : ArmAt d q j k) (hj : (j : Int) < q) (h0 : 0 ≤ n) (h1 : n < 3) (hb : b.length = 512) : d.wrErr n b = 0 ∧ ArmAt (d.wr n b) q (j + 1) (k + 1) ∧ (d.wr n b).down = false := by
  obtain ⟨e1, e2, e3⟩ := h.goes hj
  have er : d.reach n = 0 := by unfold Dk.reach; rw [e1, if_neg (by simp), if_neg (by rw [h.pages]; omega)]
  have x1 : ¬ ((0 : Int) ≠ 0) := by simp
  have x2 : ¬ (b.length ≠ 512) := by simpa using hb
  have ew : d.wr n b = d.stepped.push n b := by unfold Dk.wr; rw [er, if_neg x1, if_neg x2, if_neg e2]
  refine ⟨by unfold Dk.wrErr; rw [er, if_neg x1, if_neg x2, if_neg e2], ?_, by rw [ew, e3]; exact e1⟩
  rw [ew, e3]
  refine ⟨h.pages, ?_, Or.inl ⟨e1, rfl, by omega⟩⟩
  show (d.pend ++ [(n, b)]).length ≤ k + 1
  rw [List.length_append]
  have := h.len
  simpa using this
theorem ArmAt.syGoes {d : Dk} {q : Int} {j k : Nat} (h : ArmAt d q j k) (hj : (j : Int) < q) : d.syErr = 0 ∧ ArmAt d.sy q (j + 1) (k + 1) ∧ d.sy.down = false := by
  obtain ⟨e1, e2, e3⟩ := h.goes hj
  have es : d.sy = d.stepped.settled (fun _ => 512) := by unfold Dk.sy; rw [e1, if_neg (by simp), if_neg e2]
  refine ⟨by unfold Dk.syErr; rw [e1, if_neg (by simp), if_neg e2], ?_, by rw [es, e3]; exact e1⟩
  rw [es, e3]
  exact ⟨h.pages, Nat.zero_le _, Or.inl ⟨e1, rfl, by omega⟩⟩
theorem ArmAt.fails {d : Dk} {q : Int} {j k : Nat} (h : ArmAt d q j k) (hj : ¬ (j : Int) < q) : (j : Int) = q ∧ ((d.down = false ∧ d.arm = 0 ∧ d.stepped = { d with down := true }) ∨ d.down = true) := by
  rcases h.arm with ⟨h1, h2, h3⟩ | ⟨h1, h2⟩
  · refine ⟨by omega, Or.inl ⟨h1, by omega, ?_⟩⟩
    unfold Dk.stepped
    rw [if_pos (by omega)]
  · exact ⟨h2, Or.inr h1⟩
theorem ArmAt.wrFails {d : Dk} {q n : Int} {j k : Nat} {b : List UInt8} (h : ArmAt d q j k) (hj : ¬ (j : Int) < q) (h0 : 0 ≤ n) (h1 : n < 3) (hb : b.length = 512) : d.wrErr n b = 9 ∧ ArmAt (d.wr n b) q j (k + 1) ∧ (d.wr n b).down = true := by
  obtain ⟨e0, ⟨e1, e2, e3⟩ | e1⟩ := h.fails hj
  · have er : d.reach n = 0 := by unfold Dk.reach; rw [e1, if_neg (by simp), if_neg (by rw [h.pages]; omega)]
    have x1 : ¬ ((0 : Int) ≠ 0) := by simp
    have x2 : ¬ (b.length ≠ 512) := by simpa using hb
    have ew : d.wr n b = d.stepped := by unfold Dk.wr; rw [er, if_neg x1, if_neg x2, if_pos e2]
    refine ⟨by unfold Dk.wrErr; rw [er, if_neg x1, if_neg x2, if_pos e2], ?_, by rw [ew, e3]⟩
    rw [ew, e3]
    exact ⟨h.pages, Nat.le_succ_of_le h.len, Or.inr ⟨rfl, e0⟩⟩
  · have er : d.reach n = 9 := by unfold Dk.reach; rw [e1, if_pos rfl]
    have x1 : (9 : Int) ≠ 0 := by decide
    have ew : d.wr n b = d := by unfold Dk.wr; rw [er, if_pos x1]
    refine ⟨by unfold Dk.wrErr; rw [er, if_pos x1], ?_, by rw [ew]; exact e1⟩
    rw [ew]
    exact h.mono (by omega)
theorem ArmAt.syFails {d : Dk} {q : Int} {j k : Nat} (h : ArmAt d q j k) (hj : ¬ (j : Int) < q) : d.syErr = 9 ∧ ArmAt d.sy q j (k + 1) ∧ d.sy.down = true := by
  obtain ⟨e0, ⟨e1, e2, e3⟩ | e1⟩ := h.fails hj
  · have es : d.sy = d.stepped := by unfold Dk.sy; rw [e1, if_neg (by simp), if_pos e2]
    refine ⟨by unfold Dk.syErr; rw [e1, if_neg (by simp), if_pos e2], ?_, by rw [es, e3]⟩
    rw [es, e3]
    exact ⟨h.pages, Nat.le_succ_of_le h.len, Or.inr ⟨rfl, e0⟩⟩
  · have es : d.sy = d := by unfold Dk.sy; rw [e1, if_pos rfl]
    refine ⟨by unfold Dk.syErr; rw [e1, if_pos rfl], ?_, by rw [es]; exact e1⟩
    rw [es]
    exact h.mono (by omega)
theorem QP.downs {s : Nat} {w0 w : World} {db : Nat} {d : Dk} {ps : List (Nat × List UInt8)} (h : QP s w0 w db d ps) (b : Bool) (hb : d.down = b) : Calls Try.prog 18 #[.pointer (some ⟨db, 0, none⟩)] w fun e w' => e = .returned (.bool b) ∧ w' = w := by
  subst hb
  exact h.1.downs
set_option maxRecDepth 20000 in
set_option maxHeartbeats 4000000 in
theorem darms_walk (n : Int) (l : List Opx) (lp : Option Addr) (lc : Nat) (w : World) (hl : l.length ≤ maxLen) (hL : Ops w lp l) :
    Calls Try.prog 6 #[.int .i64 n, .slice lp l.length lc] w fun e w' => e = .returned (.bool true) ∧ Below w.heap.size w w' := by
  have HWk := hid (works_any w)
  have HL := hid hL
  clear hL
  obtain ⟨q, hq⟩ : ∃ q, wrap64 ((IntKind.u64.wrap n).tmod 30) = q := ⟨_, rfl⟩
  have hqb := umod_bd n 30 (by omega) (by omega)
  rw [hq] at hqb
  obtain ⟨hq0, hq1⟩ := hqb
  have HNw : Hid (∀ w1 : World, Calls Try.prog 9 #[.int .i64 3] w1 fun e w' => e = .returned (.tuple #[.pointer (some ⟨w1.heap.size + 2, 0, none⟩), .int .i64 0]) ∧ PD w' (w1.heap.size + 2) (fun k => w1.heap.size ≤ k ∧ k < w'.heap.size) (Dk.fresh 3) ∧ w'.heap.size = w1.heap.size + 3 ∧ Below w1.heap.size w1 w') := fun w1 => newD 3 w1 (by omega) (by omega)
  have HAr : Hid (∀ (w3 : World) (db : Nat), QP w.heap.size w w3 db (Dk.fresh 3) [] → Calls Try.prog 28 #[.pointer (some ⟨db, 0, none⟩), .int .i64 q] w3 fun e w' => e = .returned (.tuple #[]) ∧ QP w.heap.size w w' db ((Dk.fresh 3).armed q) []) := fun w3 db Q => by
    refine (Q.1.arms q (by omega)).mono ?_
    rintro e w' ⟨he, D, K⟩
    exact ⟨he, Q.keep D K⟩
  go_enter Try.func6, Try.ntmps6
  go_wp2_with (first
    | (go_at_call 24; with_reducible refine HWk.out.mono ?_; rintro e w1 ⟨rfl, B1⟩; have HB1 := hid B1; clear B1 HWk)
    | (go_at_call 9; with_reducible refine (HNw.out _).mono ?_; rintro e w2 ⟨rfl, P2, S2, B2⟩; have HQ2 := hid (QP.start P2 B2 HB1.out.size HB1.out); clear P2 S2 B2)
    | (go_at_call 28; with_reducible refine (HAr.out _ _ HQ2.out).mono ?_; rintro e w3 ⟨rfl, Q3⟩; have HQ3 := hid Q3; clear Q3)
    | fail)
  clear HNw HAr HQ2
  generalize w1.heap.size + 2 = db at *
  go_loopw [7, 8] (fun dn i wr => ∃ (k j : Nat) (d : Dk), i = .int .i64 (k : Int) ∧ dn = .int .i64 (j : Int) ∧ k ≤ 60 ∧ QP w.heap.size w wr db d [] ∧ ArmAt d q j k) (fun _ i _ => 60 - (RowKit.intOf i).toNat)
  case atStart => exact ⟨0, 0, _, rfl, rfl, by omega, HQ3.out, ArmAt.start q hq0⟩
  case round =>
    clear HQ3
    obtain ⟨k, j, d, rfl, rfl, hk, hQ, hS⟩ := hrel
    have HQ := hid hQ
    have HS := hid hS
    have hBw := hQ.1.bel
    have hjq : (j : Int) ≤ q := by rcases hS.arm with h | h <;> omega
    by_cases hx : k < l.length ∧ k < 60
    · obtain ⟨hx1, hx2⟩ := hx
      obtain ⟨g, off, rfl, bp, bc, kp', kc', c0, c1, c2, c3, c4, c5, c6, c7, _⟩ := (HL.out.below hBw).at hx1
      obtain ⟨r, hr⟩ : ∃ r, wrap64 ((IntKind.u64.wrap l[k].n).tmod 3) = r := ⟨_, rfl⟩
      have hrb := umod_bd l[k].n 3 (by omega) (by omega)
      have hr' : IntKind.i64.wrap ((IntKind.u64.wrap l[k].n).tmod 3) = r := (wrap64_i64 _).trans hr
      rw [hr] at hrb
      obtain ⟨hr0, hr1⟩ := hrb
      have HCL : Hid (∀ w', Below w.heap.size w w' → w'.cell? ⟨g, off + k * 8 + 1, none⟩ = some (.int .i64 l[k].n)) := fun w' B => by
        obtain ⟨g', off', e', o'⟩ := (HL.out.below B).at hx1
        simp only [Option.some.injEq, Addr.mk.injEq, and_true] at e'
        obtain ⟨rfl, rfl⟩ := e'
        obtain ⟨_, _, _, _, _, x1, _⟩ := o'
        exact x1
      have hBz : Below wr.heap.size wr (wr.alloc (.cells (bcells (zeros 512)).toArray 5)).drew := ((Below.refl _ _).alloc (Nat.le_refl _) _).drew
      have hQz := hQ.page hBz (Nat.le_refl _) (show Blk (wr.alloc (.cells (bcells (zeros 512)).toArray 5)).drew wr.heap.size (bcells (zeros 512)) 5 from Blk.new wr (bcells (zeros 512)) 5)
      have HCz := hid (HCL.out _ hQz.1.bel)
      have hmk := mk512
      clear hBw c2 c3 c4 c5 c6 c7 hBz
      generalize l[k].n = ln at *
      generalize l[k].kind = lk0 at *
      have hx2' : (k : Int) < 60 := by omega
      by_cases hk1 : lk0 = 1
      · have hkb1 : (lk0 == 1) = true := by simpa using hk1
        subst hk1
        by_cases hj : (j : Int) < q
        · have HX := hS.wrGoes hj hr0 hr1 (zeros_len 512)
          have HWr : Hid (Calls Try.prog 12 #[.pointer (some ⟨db, 0, none⟩), .int .i64 r, .slice (some ⟨wr.heap.size, 0, none⟩) 512 512] (wr.alloc (.cells (bcells (zeros 512)).toArray 5)).drew fun e w' => e = .returned (.int .i64 0) ∧ QP w.heap.size w w' db (d.wr r (zeros 512)) []) := by
            have t := hQz.write r 512 (zeros 512) (List.mem_cons_self ..) (by have := hS.len; omega)
            rw [HX.1, zeros_len] at t
            exact t.mono (fun e w' ⟨a, b, _⟩ => ⟨a, b.less (fun x hx => by cases hx)⟩)
          have HSn := hid HX.2.1
          have HDn : Hid (∀ w5, QP w.heap.size w w5 db (d.wr r (zeros 512)) [] → Calls Try.prog 18 #[.pointer (some ⟨db, 0, none⟩)] w5 fun e w' => e = .returned (.bool false) ∧ w' = w5) := fun w5 Q => Q.downs _ HX.2.2
          clear HX hQz hS hQ
          generalize d.wr r (zeros 512) = d' at *
          go_wp2
          go_region_held_law (fun w' => w'.cell? ⟨g, off + k * 8 + 1, none⟩ = some (.int .i64 ln)) (first | exact c1 | exact HCz.out | exact HC4.out)
            ((first
              | (go_at_call 12; with_reducible refine HWr.out.mono ?_; rintro e w4 ⟨rfl, Q4⟩; have HQ4 := hid Q4; have HC4 := hid (HCL.out w4 Q4.bel); clear Q4)
              | fail))
          all_goals go_wp2_with (first
            | (go_at_call 18; with_reducible refine (HDn.out _ HQ4.out).mono ?_; rintro e w5 ⟨rfl, hw5⟩; subst hw5)
            | fail)
          all_goals go_roundw
          all_goals first
            | exact ⟨k + 1, j + 1, d', by go_num, by go_num, by omega, HQ4.out, HSn.out⟩
            | (simp [RowKit.intOf]; omega)
        · have HX := hS.wrFails hj hr0 hr1 (zeros_len 512)
          have HWr : Hid (Calls Try.prog 12 #[.pointer (some ⟨db, 0, none⟩), .int .i64 r, .slice (some ⟨wr.heap.size, 0, none⟩) 512 512] (wr.alloc (.cells (bcells (zeros 512)).toArray 5)).drew fun e w' => e = .returned (.int .i64 9) ∧ QP w.heap.size w w' db (d.wr r (zeros 512)) []) := by
            have t := hQz.write r 512 (zeros 512) (List.mem_cons_self ..) (by have := hS.len; omega)
            rw [HX.1, zeros_len] at t
            exact t.mono (fun e w' ⟨a, b, _⟩ => ⟨a, b.less (fun x hx => by cases hx)⟩)
          have HSn := hid HX.2.1
          have HDn : Hid (∀ w5, QP w.heap.size w w5 db (d.wr r (zeros 512)) [] → Calls Try.prog 18 #[.pointer (some ⟨db, 0, none⟩)] w5 fun e w' => e = .returned (.bool true) ∧ w' = w5) := fun w5 Q => Q.downs _ HX.2.2
          clear HX hQz hS hQ
          generalize d.wr r (zeros 512) = d' at *
          go_wp2
          go_region_held_law (fun w' => w'.cell? ⟨g, off + k * 8 + 1, none⟩ = some (.int .i64 ln)) (first | exact c1 | exact HCz.out | exact HC4.out)
            ((first
              | (go_at_call 12; with_reducible refine HWr.out.mono ?_; rintro e w4 ⟨rfl, Q4⟩; have HQ4 := hid Q4; have HC4 := hid (HCL.out w4 Q4.bel); clear Q4)
              | fail))
          all_goals go_wp2_with (first
            | (go_at_call 18; with_reducible refine (HDn.out _ HQ4.out).mono ?_; rintro e w5 ⟨rfl, hw5⟩; subst hw5)
            | fail)
          all_goals go_roundw
          all_goals first
            | exact ⟨k + 1, j, d', by go_num, by go_num, by omega, HQ4.out, HSn.out⟩
            | (simp [RowKit.intOf]; omega)
      · have hkb1 : (lk0 == 1) = false := by simpa using hk1
        by_cases hk2 : lk0 = 2
        · subst hk2
          clear hk1 hkb1
          by_cases hj : (j : Int) < q
          · have HX := hS.syGoes hj
            have HSy : Hid (Calls Try.prog 13 #[.pointer (some ⟨db, 0, none⟩)] wr fun e w' => e = .returned (.int .i64 0) ∧ QP w.heap.size w w' db d.sy []) := by
              have t := hQ.sync (by have := hS.len; omega)
              rw [HX.1] at t
              exact t
            have HSn := hid HX.2.1
            have HDn : Hid (∀ w5, QP w.heap.size w w5 db d.sy [] → Calls Try.prog 18 #[.pointer (some ⟨db, 0, none⟩)] w5 fun e w' => e = .returned (.bool false) ∧ w' = w5) := fun w5 Q => Q.downs _ HX.2.2
            clear HX hQz hS hQ
            generalize d.sy = d' at *
            go_wp2_with (first
              | (go_at_call 13; with_reducible refine HSy.out.mono ?_; rintro e w4 ⟨rfl, Q4⟩; have HQ4 := hid Q4; clear Q4)
              | (go_at_call 18; with_reducible refine (HDn.out _ HQ4.out).mono ?_; rintro e w5 ⟨rfl, hw5⟩; subst hw5)
              | fail)
            all_goals go_roundw
            all_goals first
              | exact ⟨k + 1, j + 1, d', by go_num, by go_num, by omega, HQ4.out, HSn.out⟩
              | (simp [RowKit.intOf]; omega)
          · have HX := hS.syFails hj
            have HSy : Hid (Calls Try.prog 13 #[.pointer (some ⟨db, 0, none⟩)] wr fun e w' => e = .returned (.int .i64 9) ∧ QP w.heap.size w w' db d.sy []) := by
              have t := hQ.sync (by have := hS.len; omega)
              rw [HX.1] at t
              exact t
            have HSn := hid HX.2.1
            have HDn : Hid (∀ w5, QP w.heap.size w w5 db d.sy [] → Calls Try.prog 18 #[.pointer (some ⟨db, 0, none⟩)] w5 fun e w' => e = .returned (.bool true) ∧ w' = w5) := fun w5 Q => Q.downs _ HX.2.2
            clear HX hQz hS hQ
            generalize d.sy = d' at *
            go_wp2_with (first
              | (go_at_call 13; with_reducible refine HSy.out.mono ?_; rintro e w4 ⟨rfl, Q4⟩; have HQ4 := hid Q4; clear Q4)
              | (go_at_call 18; with_reducible refine (HDn.out _ HQ4.out).mono ?_; rintro e w5 ⟨rfl, hw5⟩; subst hw5)
              | fail)
            all_goals go_roundw
            all_goals first
              | exact ⟨k + 1, j, d', by go_num, by go_num, by omega, HQ4.out, HSn.out⟩
              | (simp [RowKit.intOf]; omega)
        · have hkb2 : (lk0 == 2) = false := by simpa using hk2
          cases hdn : d.down
          · have HRd : Hid (Calls Try.prog 29 #[.pointer (some ⟨db, 0, none⟩), .int .i64 0] wr fun e w' => e = .returned (.tuple #[.slice (some ⟨wr.heap.size + 1, 0, none⟩) 512 512, .int .i64 0]) ∧ QP w.heap.size w w' db d []) :=
              (hQ.read 0 (by unfold Dk.reach; rw [hdn, if_neg (by simp), if_neg (by rw [hS.pages]; omega)])).mono (fun e w' ⟨a, b⟩ => ⟨a, b.less (fun x hx => by cases hx)⟩)
            have HDn : Hid (∀ w5, QP w.heap.size w w5 db d [] → Calls Try.prog 18 #[.pointer (some ⟨db, 0, none⟩)] w5 fun e w' => e = .returned (.bool false) ∧ w' = w5) := fun w5 Q => Q.downs _ hdn
            clear hQz hS hQ hk1 hk2 hdn
            go_wp2_with (first
              | (go_at_call 29; with_reducible refine HRd.out.mono ?_; rintro e w4 ⟨rfl, Q4⟩; have HQ4 := hid Q4; clear Q4)
              | (go_at_call 18; with_reducible refine (HDn.out _ HQ4.out).mono ?_; rintro e w5 ⟨rfl, hw5⟩; subst hw5)
              | fail)
            all_goals go_roundw
            all_goals first
              | exact ⟨k + 1, j, d, by go_num, by go_num, by omega, HQ4.out, HS.out.mono (by omega)⟩
              | (simp [RowKit.intOf]; omega)
          · have hre : d.reach 0 = 9 := by unfold Dk.reach; rw [hdn, if_pos rfl]
            have HRd := hQ.1.readBad 0 (by rw [hre]; decide)
            rw [hre] at HRd
            have HRd' := hid HRd
            have HDn : Hid (∀ w5, QP w.heap.size w w5 db d [] → Calls Try.prog 18 #[.pointer (some ⟨db, 0, none⟩)] w5 fun e w' => e = .returned (.bool true) ∧ w' = w5) := fun w5 Q => Q.downs _ hdn
            clear hQz hS hQ hk1 hk2 hdn HRd hre
            go_wp2_with (first
              | (go_at_call 29; with_reducible refine HRd'.out.mono ?_; rintro e w4 ⟨rfl, hw4⟩; subst hw4)
              | (go_at_call 18; with_reducible refine (HDn.out _ HQ.out).mono ?_; rintro e w5 ⟨rfl, hw5⟩; subst hw5)
              | fail)
            all_goals go_roundw
            all_goals first
              | exact ⟨k + 1, j, d, by go_num, by go_num, by omega, HQ.out, HS.out.mono (by omega)⟩
              | (simp [RowKit.intOf]; omega)
    · have HMe : Hid (Calls Try.prog 14 #[.pointer (some ⟨db, 0, none⟩), .slice none 0 0, .int .i64 (-1), .int .i64 0] wr fun e w' => e = .returned (.tuple #[]) ∧ QP w.heap.size w w' db (d.mended [] (-1) 0) []) := hQ.mend none [] 0 (-1) 0 (by have := hS.len; omega) (Or.inl rfl) (fun h => absurd rfl h)
      have HPe : Hid (∀ w8, QP w.heap.size w w8 db (d.mended [] (-1) 0) [] → Calls Try.prog 20 #[.pointer (some ⟨db, 0, none⟩)] w8 fun e w' => e = .returned (.slice (some ⟨w8.heap.size, 0, none⟩) 0 0) ∧ QP w.heap.size w w' db (d.mended [] (-1) 0) []) := fun w8 Q => (Q.1.pends (by show 0 < 1000000; omega)).mono (fun e w' ⟨a, _, B, _⟩ => ⟨a, Q.grow B⟩)
      have HSe : Hid (∀ w8, QP w.heap.size w w8 db (d.mended [] (-1) 0) [] → Calls Try.prog 13 #[.pointer (some ⟨db, 0, none⟩)] w8 fun e w' => e = .returned (.int .i64 0) ∧ QP w.heap.size w w' db (d.mended [] (-1) 0).sy []) := fun w8 Q => by
        have t := Q.sync (by show 0 < 1000000; omega)
        rw [(Dk.mended_free d [] (-1) 0).sy.1] at t
        exact t
      have hxx : l.length ≤ k ∨ 60 ≤ k := by omega
      clear hQ hS hBw hx
      rcases hxx with hxx | hxx
      · go_wp2_with (first
          | (go_at_call 14; with_reducible refine HMe.out.mono ?_; rintro e w8 ⟨rfl, Q8⟩; have HQ8 := hid Q8; have HD8 := hid (Q8.downs false rfl); have HP8 := hid (HPe.out w8 Q8); clear Q8)
          | (go_at_call 18; with_reducible refine HD8.out.mono ?_; rintro e w9 ⟨rfl, hw9⟩; subst hw9)
          | (go_at_call 20; with_reducible refine HP8.out.mono ?_; rintro e w10 ⟨rfl, Q10⟩; have HS10 := hid (HSe.out w10 Q10); clear Q10)
          | (go_at_call 13; with_reducible refine HS10.out.mono ?_; rintro e w11 ⟨rfl, Q11⟩; have HQ11 := hid Q11; clear Q11)
          | fail)
        all_goals go_ret
        all_goals exact ⟨rfl, HQ11.out.1.bel⟩
      · have hxi : ¬ ((k : Int) < 60) := by omega
        go_wp2_with (first
          | (go_at_call 14; with_reducible refine HMe.out.mono ?_; rintro e w8 ⟨rfl, Q8⟩; have HQ8 := hid Q8; have HD8 := hid (Q8.downs false rfl); have HP8 := hid (HPe.out w8 Q8); clear Q8)
          | (go_at_call 18; with_reducible refine HD8.out.mono ?_; rintro e w9 ⟨rfl, hw9⟩; subst hw9)
          | (go_at_call 20; with_reducible refine HP8.out.mono ?_; rintro e w10 ⟨rfl, Q10⟩; have HS10 := hid (HSe.out w10 Q10); clear Q10)
          | (go_at_call 13; with_reducible refine HS10.out.mono ?_; rintro e w11 ⟨rfl, Q11⟩; have HQ11 := hid Q11; clear Q11)
          | fail)
        all_goals go_ret
        all_goals exact ⟨rfl, HQ11.out.1.bel⟩
end Go.Proofs.Ytfgcjcffplglhaa
