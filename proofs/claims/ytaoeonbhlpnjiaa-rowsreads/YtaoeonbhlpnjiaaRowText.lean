/- What (*reader).text and value of package rows do. Condition: the bytes lie within the reach. -/
import Derived.Test.YtaoeonbhlpnjiaaRowTake
namespace Go.Proofs.Ytaoeonbhlpnjiaa
open Go.RowKit Go.Lib Go.Sort
set_option linter.unusedVariables false

/-- A text at the front of bytes, and what is left; or the error. -/
def txtG (u : List UInt8) : Except Int (List UInt8 × List UInt8) := match numG 0 u with
  | .ok (n, r) => if r.length < n then .error 1 else .ok (r.take n, r.drop n)
  | .error e => .error e

theorem rk_put {w : World} {rb c' m : Nat} {u : List UInt8} {p' : Option Addr} {v0 : Value} (h0 : w.cell? ⟨rb, 0, none⟩ = some v0) (f0 : w.frozen? ⟨rb, 0, none⟩ = false) (hu : u.length = m) (hc : m ≤ c')
    (hm : u = [] ∨ ∃ b off, p' = some ⟨b, off, none⟩ ∧ b < rb ∧ ∀ i (h : i < u.length), w.cell? ⟨b, off + i, none⟩ = some (.int .u8 (u[i].toNat : Int))) : Rk (w.setCell ⟨rb, 0, none⟩ (.slice p' m c')) rb u := by
  subst hu
  exact rk_set (n := 0) h0 f0 hc hm
theorem Rk.byts {w : World} {rb c : Nat} {u : List UInt8} {p : Option Addr} (hm : u = [] ∨ ∃ b off, p = some ⟨b, off, none⟩ ∧ b < rb ∧ ∀ i (h : i < u.length), w.cell? ⟨b, off + i, none⟩ = some (.int .u8 (u[i].toNat : Int))) : Byts w p u := by
  rcases hm with h | ⟨b, off, hp, _, hc⟩
  · exact Or.inl h
  · exact Or.inr ⟨b, off, hp, hc⟩

theorem conv_nil (w : World) (p : Option Addr) (c : Nat) : (convert 24 9 (.slice p 0 c)).run Try.prog w = .ok (.string ⟨#[]⟩) w := conv_byts (l := []) c (Or.inl rfl)
theorem conv_take {w : World} {b off c n : Nat} {r : List UInt8} (hcells : ∀ i (h : i < r.length), w.cell? ⟨b, off + i, none⟩ = some (.int .u8 (r[i].toNat : Int))) (hle : n ≤ r.length) :
    (convert 24 9 (.slice (some ⟨b, off, none⟩) n c)).run Try.prog w = .ok (.string ⟨(r.take n).toArray⟩) w := by
  have h := conv_byts c (Byts.take (w := w) (p := some ⟨b, off, none⟩) (l := r) (Or.inr ⟨b, off, rfl, hcells⟩) n)
  have e : (r.take n).length = n := by rw [List.length_take]; omega
  rw [e] at h
  exact h

/-- The ending of a text that is read. -/
def textEndW (rb : Nat) (x : Except Int (List UInt8 × List UInt8)) (w : World) (e : Ending) (w' : World) : Prop :=
  Only rb w w' ∧ match x with
    | .ok r => e = .returned (.string ⟨r.1.toArray⟩) ∧ Rk w' rb r.2
    | .error n => e = .panicked (thr n)

set_option maxRecDepth 20000 in
set_option maxHeartbeats 4000000 in
theorem ktext_any (rb : Nat) (u : List UInt8) (w : World) (hR : Rk w rb u) (hl : u.length ≤ 140737488351232) :
    Calls Try.prog 45 #[.pointer (some ⟨rb, 0, none⟩)] w (textEndW rb (txtG u) w) := by
  have N := knum_any rb u w hR hl
  unfold numEndW at N
  clear hR
  unfold txtG
  cases hx : numG 0 u with
  | error e =>
    rw [hx] at N
    simp only [] at N
    go_enter Try.func45, Try.ntmps45
    go_wp2_with (go_at_call 38; with_reducible refine N.mono ?_; rintro e w2 ⟨O2, rfl⟩)
    exact ⟨rfl, O2, rfl⟩
  | ok x =>
    obtain ⟨n, r⟩ := x
    have hn := numG_lt0 hx
    obtain ⟨k, e1, e2, _⟩ := numG_rest u 0 n r hx
    have hr : r.length ≤ 140737488351232 := by
      have := congrArg List.length e1
      rw [List.length_drop] at this
      omega
    rw [hx] at N
    simp only [] at N ⊢
    clear hx e1 e2 hl
    have N := N.mono (R' := fun e w' => e = .returned (.int .u64 (n : Int)) ∧ Only rb w w' ∧ ∃ p c, w'.cell? ⟨rb, 0, none⟩ = some (.slice p r.length c) ∧ w'.frozen? ⟨rb, 0, none⟩ = false ∧ r.length ≤ c ∧
        (r = [] ∨ ∃ b off, p = some ⟨b, off, none⟩ ∧ b < rb ∧ ∀ i (h : i < r.length), w'.cell? ⟨b, off + i, none⟩ = some (.int .u8 (r[i].toNat : Int)))) (by
      rintro e w' ⟨O, he, R⟩
      exact ⟨he, O, R⟩)
    by_cases hbig : r.length < n
    · rw [if_pos hbig]
      go_enter Try.func45, Try.ntmps45
      go_wp2_with (go_at_call 38; with_reducible refine N.mono ?_; rintro e w2 ⟨rfl, O2, p, c, h0, f0, hc, hm⟩; have HO2 := hid O2; clear O2 hm)
      exact ⟨rfl, HO2.out, rfl⟩
    · rw [if_neg hbig]
      have hle : n ≤ r.length := by omega
      clear hbig hn
      by_cases hr0 : r = []
      · subst hr0
        obtain rfl : n = 0 := by simpa using hle
        simp only [List.length_nil] at N
        have N := N.mono (R' := fun e w' => e = .returned (.int .u64 0) ∧ Only rb w w' ∧ ∃ p c, w'.cell? ⟨rb, 0, none⟩ = some (.slice p 0 c) ∧ w'.frozen? ⟨rb, 0, none⟩ = false) (by
          rintro e w' ⟨he, O, p, c, a1, a2, _⟩
          exact ⟨he, O, p, c, a1, a2⟩)
        go_enter Try.func45, Try.ntmps45
        go_wp2_with (go_at_call 38; with_reducible refine N.mono ?_; rintro e w2 ⟨rfl, O2, p, c, h0, f0⟩; have HO2 := hid O2; have hcv := conv_nil w2 p c; clear O2)
        cases p
        all_goals
          go_wp2
          go_ret
          exact ⟨HO2.out.trans (only_set _ _ 0 _), rfl, rk_put h0 f0 rfl (Nat.zero_le _) (Or.inl rfl)⟩
      · have N := N.mono (R' := fun e w' => e = .returned (.int .u64 (n : Int)) ∧ Only rb w w' ∧ ∃ b off c, w'.cell? ⟨rb, 0, none⟩ = some (.slice (some ⟨b, off, none⟩) r.length c) ∧ w'.frozen? ⟨rb, 0, none⟩ = false ∧ r.length ≤ c ∧ b < rb ∧ ∀ i (h : i < r.length), w'.cell? ⟨b, off + i, none⟩ = some (.int .u8 (r[i].toNat : Int))) (by
          rintro e w' ⟨he, O, p, c, a1, a2, a3, a4 | ⟨b, off, hp, hb, hcells⟩⟩
          · exact absurd a4 hr0
          · subst hp
            exact ⟨he, O, b, off, c, a1, a2, a3, hb, hcells⟩)
        have Hdl : Hid ((r.drop n).length = r.length - n) := List.length_drop
        go_enter Try.func45, Try.ntmps45
        go_wp2_with (go_at_call 38; with_reducible refine N.mono ?_; rintro e w2 ⟨rfl, O2, b, off, c, h0, f0, hc, hb, hcells⟩; have HO2 := hid O2; have HC := hid hcells; have hcv := conv_take (c := c) hcells hle; clear O2 hcells)
        · rename_i hc1
          go_ret
          exact ⟨HO2.out.trans (only_set _ _ 0 _), rfl, rk_put h0 f0 Hdl.out (by omega) (Or.inl (List.length_eq_zero_iff.1 (by rw [Hdl.out]; omega)))⟩
        · rename_i hc1
          go_ret
          refine ⟨HO2.out.trans (only_set _ _ 0 _), rfl, rk_put h0 f0 Hdl.out (by omega) (Or.inr ⟨b, off + n, rfl, hb, fun i hi => ?_⟩)⟩
          have h2 := HC.out (n + i) (by rw [Hdl.out] at hi; omega)
          rw [List.getElem_drop, Nat.add_assoc]
          exact h2

/-- The ending of a value that is read. -/
def valEndW (rb : Nat) (x : Except Int (Val × List UInt8)) (w : World) (e : Ending) (w' : World) : Prop :=
  Only rb w w' ∧ match x with
    | .ok r => e = .returned (.agg #[.int .i64 r.1.k, .int .i64 r.1.n, .string r.1.s]) ∧ Rk w' rb r.2
    | .error n => e = .panicked (thr n)

theorem only_alloc (rb : Nat) (w : World) (o : Obj) : Only rb w (w.alloc o) := Past.alloc _ _ _ _
theorem box_only {rb : Nat} {w w2 : World} {ty : TypeId} (h : Only rb (w.alloc (.cells #[.int .i64 0, .int .i64 0, .string ⟨#[]⟩] ty)) w2) (hrb : rb < w.heap.size) :
    w2.cell? ⟨w.heap.size, 0, none⟩ = some (.int .i64 0) ∧ w2.cell? ⟨w.heap.size, 1, none⟩ = some (.int .i64 0) ∧ w2.cell? ⟨w.heap.size, 2, none⟩ = some (.string ⟨#[]⟩) ∧ w2.frozen? ⟨w.heap.size, 0, none⟩ = false ∧ w2.frozen? ⟨w.heap.size, 1, none⟩ = false ∧ w2.frozen? ⟨w.heap.size, 2, none⟩ = false := by
  have hne : w.heap.size ≠ rb := by omega
  have hb := h.block w.heap.size (by simp) hne (by simp [nilB, Value.ownBlock])
  refine ⟨h.cell (by go_simp) hne, h.cell (by go_simp) hne, h.cell (by go_simp) hne, ?_, ?_, ?_⟩ <;> (rw [World.frozen?_of_block hb]; go_simp)

set_option maxHeartbeats 1000000 in
theorem kv_none (rb : Nat) (w : World) (hR : Rk w rb []) :
    Calls Try.prog 39 #[.pointer (some ⟨rb, 0, none⟩)] w (valEndW rb (.error 1) w) := by
  have hrb := hR.lt
  have T := ktake_none rb _ (hR.below (base := w.heap.size) ((Below.refl w.heap.size w).alloc (Nat.le_refl _) (.cells #[.int .i64 0, .int .i64 0, .string ⟨#[]⟩] 38)) hrb)
  clear hR
  go_enter Try.func39, Try.ntmps39
  go_wp2_with (go_at_call 42; with_reducible refine T.mono ?_; rintro e w2 ⟨rfl, hw⟩; subst hw)
  exact ⟨rfl, only_alloc _ _ _, rfl⟩

set_option maxHeartbeats 1000000 in
theorem kv_bad (rb : Nat) (c : UInt8) (u : List UInt8) (w : World) (hR : Rk w rb (c :: u)) (hl : u.length + 1 ≤ 140737488351232) (hc : 5 ≤ c.toNat) :
    Calls Try.prog 39 #[.pointer (some ⟨rb, 0, none⟩)] w (valEndW rb (.error 5) w) := by
  have hrb := hR.lt
  have T := ktake_some rb c u _ (hR.below (base := w.heap.size) ((Below.refl w.heap.size w).alloc (Nat.le_refl _) (.cells #[.int .i64 0, .int .i64 0, .string ⟨#[]⟩] 38)) hrb) (by unfold maxLen; omega)
  have hlt := UInt8.toNat_lt c
  generalize c.toNat = y at *
  have e0 : ((y : Int) == 0) = false := beq_eq_false_iff_ne.2 (by omega)
  have e1 : ((y : Int) == 1) = false := beq_eq_false_iff_ne.2 (by omega)
  have e2 : ((y : Int) == 2) = false := beq_eq_false_iff_ne.2 (by omega)
  have e3 : ((y : Int) == 3) = false := beq_eq_false_iff_ne.2 (by omega)
  have e4 : ((y : Int) == 4) = false := beq_eq_false_iff_ne.2 (by omega)
  clear hR
  go_enter Try.func39, Try.ntmps39
  go_wp2_with (go_at_call 42; with_reducible refine T.mono ?_; rintro e w2 ⟨rfl, R2, O2⟩)
  exact ⟨rfl, (only_alloc _ _ _).trans O2, rfl⟩

set_option maxHeartbeats 1000000 in
theorem kv_null (rb : Nat) (c : UInt8) (u : List UInt8) (w : World) (hR : Rk w rb (c :: u)) (hl : u.length + 1 ≤ 140737488351232) (hc : c.toNat = 0) :
    Calls Try.prog 39 #[.pointer (some ⟨rb, 0, none⟩)] w (valEndW rb (.ok (⟨0, 0, ⟨#[]⟩⟩, u)) w) := by
  have hrb := hR.lt
  have T := (ktake_some rb c u _ (hR.below (base := w.heap.size) ((Below.refl w.heap.size w).alloc (Nat.le_refl _) (.cells #[.int .i64 0, .int .i64 0, .string ⟨#[]⟩] 38)) hrb) (by unfold maxLen; omega)).mono (R' := fun e w' => e = .returned (.int .u8 0) ∧ Rk w' rb u ∧ Only rb (w.alloc (.cells #[.int .i64 0, .int .i64 0, .string ⟨#[]⟩] 38)) w') (by rintro e w' ⟨h, r1, o1⟩; exact ⟨by rw [h, hc]; rfl, r1, o1⟩)
  clear hR
  go_enter Try.func39, Try.ntmps39
  go_wp2_with (go_at_call 42; with_reducible refine T.mono ?_; rintro e w2 ⟨rfl, R2, O2⟩; obtain ⟨g0, g1, g2, z0, z1, z2⟩ := box_only O2 hrb; have HR2 := hid R2; have HO2 := hid ((only_alloc _ _ _).trans O2); clear R2 O2)
  have B := Below.refl w.heap.size w2
  refine bodyPost_ret (by simp [results, Try.results39, go_sem, g0, g1, g2]; try rfl) rfl ?_
  exact ⟨HO2.out.then (by go_grown), rfl, HR2.out.below (base := w.heap.size) (by go_grown) hrb⟩

set_option maxHeartbeats 1000000 in
theorem kv_bool (rb : Nat) (c d : UInt8) (u : List UInt8) (w : World) (hR : Rk w rb (c :: d :: u)) (hl : u.length + 2 ≤ 140737488351232) (hc : c.toNat = 1) (hd : d.toNat ≤ 1) :
    Calls Try.prog 39 #[.pointer (some ⟨rb, 0, none⟩)] w (valEndW rb (.ok (⟨1, (d.toNat : Int), ⟨#[]⟩⟩, u)) w) := by
  have hrb := hR.lt
  have T := (ktake_some rb c (d :: u) _ (hR.below (base := w.heap.size) ((Below.refl w.heap.size w).alloc (Nat.le_refl _) (.cells #[.int .i64 0, .int .i64 0, .string ⟨#[]⟩] 38)) hrb) (by unfold maxLen; simp; omega)).mono (R' := fun e w' => e = .returned (.int .u8 1) ∧ Rk w' rb (d :: u) ∧ Only rb (w.alloc (.cells #[.int .i64 0, .int .i64 0, .string ⟨#[]⟩] 38)) w') (by rintro e w' ⟨h, r1, o1⟩; exact ⟨by rw [h, hc]; rfl, r1, o1⟩)
  have E := fun w2 (R2 : Rk w2 rb (d :: u)) => ktruth_some rb d u w2 R2 (by unfold maxLen; omega) hd
  clear hR
  generalize d.toNat = y at *
  go_enter Try.func39, Try.ntmps39
  go_wp2_with (first
    | (go_at_call 42; with_reducible refine T.mono ?_; rintro e w2 ⟨rfl, R2, O2⟩; have E2 := E w2 R2; have HO2 := hid O2; clear R2 O2)
    | (go_at_call 43; with_reducible refine E2.mono ?_; rintro e w3 ⟨rfl, R3, O3⟩; obtain ⟨g0, g1, g2, z0, z1, z2⟩ := box_only (HO2.out.trans O3) hrb; have HR3 := hid R3; have HO3 := hid ((only_alloc _ _ _).trans (HO2.out.trans O3)); clear R3 O3)
    | fail)
  have B := Below.refl w.heap.size w3
  refine bodyPost_ret (by simp [results, Try.results39, go_sem, g0, g1, g2]; try rfl) rfl ?_
  exact ⟨HO3.out.then (by go_grown), rfl, HR3.out.below (base := w.heap.size) (by go_grown) hrb⟩

set_option maxHeartbeats 1000000 in
theorem kv_bool_none (rb : Nat) (c : UInt8) (w : World) (hR : Rk w rb [c]) (hc : c.toNat = 1) :
    Calls Try.prog 39 #[.pointer (some ⟨rb, 0, none⟩)] w (valEndW rb (.error 1) w) := by
  have hrb := hR.lt
  have T := (ktake_some rb c [] _ (hR.below (base := w.heap.size) ((Below.refl w.heap.size w).alloc (Nat.le_refl _) (.cells #[.int .i64 0, .int .i64 0, .string ⟨#[]⟩] 38)) hrb) (by unfold maxLen; simp)).mono (R' := fun e w' => e = .returned (.int .u8 1) ∧ Rk w' rb [] ∧ Only rb (w.alloc (.cells #[.int .i64 0, .int .i64 0, .string ⟨#[]⟩] 38)) w') (by rintro e w' ⟨h, r1, o1⟩; exact ⟨by rw [h, hc]; rfl, r1, o1⟩)
  have E := fun w2 (R2 : Rk w2 rb []) => ktruth_none rb w2 R2
  clear hR
  go_enter Try.func39, Try.ntmps39
  go_wp2_with (first
    | (go_at_call 42; with_reducible refine T.mono ?_; rintro e w2 ⟨rfl, R2, O2⟩; have E2 := E w2 R2; have HO2 := hid O2; clear R2 O2)
    | (go_at_call 43; with_reducible refine E2.mono ?_; rintro e w3 ⟨rfl, hw⟩; subst hw)
    | fail)
  exact ⟨rfl, (only_alloc _ _ _).trans HO2.out, rfl⟩

set_option maxHeartbeats 1000000 in
theorem kv_bool_bad (rb : Nat) (c d : UInt8) (u : List UInt8) (w : World) (hR : Rk w rb (c :: d :: u)) (hl : u.length + 2 ≤ 140737488351232) (hc : c.toNat = 1) (hd : 1 < d.toNat) :
    Calls Try.prog 39 #[.pointer (some ⟨rb, 0, none⟩)] w (valEndW rb (.error 3) w) := by
  have hrb := hR.lt
  have T := (ktake_some rb c (d :: u) _ (hR.below (base := w.heap.size) ((Below.refl w.heap.size w).alloc (Nat.le_refl _) (.cells #[.int .i64 0, .int .i64 0, .string ⟨#[]⟩] 38)) hrb) (by unfold maxLen; simp; omega)).mono (R' := fun e w' => e = .returned (.int .u8 1) ∧ Rk w' rb (d :: u) ∧ Only rb (w.alloc (.cells #[.int .i64 0, .int .i64 0, .string ⟨#[]⟩] 38)) w') (by rintro e w' ⟨h, r1, o1⟩; exact ⟨by rw [h, hc]; rfl, r1, o1⟩)
  have E := fun w2 (R2 : Rk w2 rb (d :: u)) => ktruth_bad rb d u w2 R2 (by unfold maxLen; omega) hd
  clear hR
  generalize d.toNat = y at *
  go_enter Try.func39, Try.ntmps39
  go_wp2_with (first
    | (go_at_call 42; with_reducible refine T.mono ?_; rintro e w2 ⟨rfl, R2, O2⟩; have E2 := E w2 R2; have HO2 := hid O2; clear R2 O2)
    | (go_at_call 43; with_reducible refine E2.mono ?_; rintro e w3 ⟨rfl, O3⟩)
    | fail)
  exact ⟨rfl, ((only_alloc _ _ _).trans HO2.out).trans O3, rfl⟩

set_option maxHeartbeats 1000000 in
theorem kv_int (rb : Nat) (c : UInt8) (u : List UInt8) (w : World) (hR : Rk w rb (c :: u)) (hl : u.length + 1 ≤ 140737488351232) (hc : c.toNat = 2) (n : Nat) (r : List UInt8) (hx : numG 0 u = .ok (n, r)) :
    Calls Try.prog 39 #[.pointer (some ⟨rb, 0, none⟩)] w (valEndW rb (.ok (⟨2, unzz n, ⟨#[]⟩⟩, r)) w) := by
  have hrb := hR.lt
  have T := (ktake_some rb c u _ (hR.below (base := w.heap.size) ((Below.refl w.heap.size w).alloc (Nat.le_refl _) (.cells #[.int .i64 0, .int .i64 0, .string ⟨#[]⟩] 38)) hrb) (by unfold maxLen; omega)).mono (R' := fun e w' => e = .returned (.int .u8 2) ∧ Rk w' rb u ∧ Only rb (w.alloc (.cells #[.int .i64 0, .int .i64 0, .string ⟨#[]⟩] 38)) w') (by rintro e w' ⟨h, r1, o1⟩; exact ⟨by rw [h, hc]; rfl, r1, o1⟩)
  have E := fun w2 (R2 : Rk w2 rb u) => knum_any rb u w2 R2 (by omega)
  rw [hx] at E
  unfold numEndW at E
  simp only [] at E
  have S := fun w => withSign_any n w (numG_lt0 hx)
  generalize unzz n = z at *
  clear hR hx
  go_enter Try.func39, Try.ntmps39
  go_wp2_with (first
    | (go_at_call 42; with_reducible refine T.mono ?_; rintro e w2 ⟨rfl, R2, O2⟩; have E2 := E w2 R2; have HO2 := hid O2; clear R2 O2)
    | (go_at_call 38; with_reducible refine E2.mono ?_; rintro e w3 ⟨O3, rfl, R3⟩; obtain ⟨g0, g1, g2, z0, z1, z2⟩ := box_only (HO2.out.trans O3) hrb; have HR3 := hid R3; have HO3 := hid ((only_alloc _ _ _).trans (HO2.out.trans O3)); clear R3 O3)
    | (go_at_call 44; with_reducible refine (S _).mono ?_; rintro e w4 ⟨rfl, hw⟩; subst hw)
    | fail)
  have B := Below.refl w.heap.size w4
  refine bodyPost_ret (by simp [results, Try.results39, go_sem, g0, g1, g2]; try rfl) rfl ?_
  exact ⟨HO3.out.then (by go_grown), rfl, HR3.out.below (base := w.heap.size) (by go_grown) hrb⟩

set_option maxHeartbeats 1000000 in
theorem kv_int_bad (rb : Nat) (c : UInt8) (u : List UInt8) (w : World) (hR : Rk w rb (c :: u)) (hl : u.length + 1 ≤ 140737488351232) (hc : c.toNat = 2) (n : Int) (hx : numG 0 u = .error n) :
    Calls Try.prog 39 #[.pointer (some ⟨rb, 0, none⟩)] w (valEndW rb (.error n) w) := by
  have hrb := hR.lt
  have T := (ktake_some rb c u _ (hR.below (base := w.heap.size) ((Below.refl w.heap.size w).alloc (Nat.le_refl _) (.cells #[.int .i64 0, .int .i64 0, .string ⟨#[]⟩] 38)) hrb) (by unfold maxLen; omega)).mono (R' := fun e w' => e = .returned (.int .u8 2) ∧ Rk w' rb u ∧ Only rb (w.alloc (.cells #[.int .i64 0, .int .i64 0, .string ⟨#[]⟩] 38)) w') (by rintro e w' ⟨h, r1, o1⟩; exact ⟨by rw [h, hc]; rfl, r1, o1⟩)
  have E := fun w2 (R2 : Rk w2 rb u) => knum_any rb u w2 R2 (by omega)
  rw [hx] at E
  unfold numEndW at E
  simp only [] at E
  clear hR hx
  go_enter Try.func39, Try.ntmps39
  go_wp2_with (first
    | (go_at_call 42; with_reducible refine T.mono ?_; rintro e w2 ⟨rfl, R2, O2⟩; have E2 := E w2 R2; have HO2 := hid O2; clear R2 O2)
    | (go_at_call 38; with_reducible refine E2.mono ?_; rintro e w3 ⟨O3, rfl⟩)
    | fail)
  exact ⟨rfl, ((only_alloc _ _ _).trans HO2.out).trans O3, rfl⟩

set_option maxHeartbeats 1000000 in
theorem kv_text (rb : Nat) (c : UInt8) (u : List UInt8) (w : World) (hR : Rk w rb (c :: u)) (hl : u.length + 1 ≤ 140737488351232) (k : Int) (hk : (c.toNat = 3 ∧ k = 3) ∨ (c.toNat = 4 ∧ k = 4)) (s r : List UInt8) (hx : txtG u = .ok (s, r)) :
    Calls Try.prog 39 #[.pointer (some ⟨rb, 0, none⟩)] w (valEndW rb (.ok (⟨k, 0, ⟨s.toArray⟩⟩, r)) w) := by
  have hrb := hR.lt
  have E := fun w2 (R2 : Rk w2 rb u) => ktext_any rb u w2 R2 (by omega)
  rw [hx] at E
  unfold textEndW at E
  simp only [] at E
  rcases hk with ⟨hc, rfl⟩ | ⟨hc, rfl⟩
  · have T := (ktake_some rb c u _ (hR.below (base := w.heap.size) ((Below.refl w.heap.size w).alloc (Nat.le_refl _) (.cells #[.int .i64 0, .int .i64 0, .string ⟨#[]⟩] 38)) hrb) (by unfold maxLen; omega)).mono (R' := fun e w' => e = .returned (.int .u8 3) ∧ Rk w' rb u ∧ Only rb (w.alloc (.cells #[.int .i64 0, .int .i64 0, .string ⟨#[]⟩] 38)) w') (by rintro e w' ⟨h, r1, o1⟩; exact ⟨by rw [h, hc]; rfl, r1, o1⟩)
    clear hR hx
    go_enter Try.func39, Try.ntmps39
    go_wp2_with (first
      | (go_at_call 42; with_reducible refine T.mono ?_; rintro e w2 ⟨rfl, R2, O2⟩; have E2 := E w2 R2; have HO2 := hid O2; clear R2 O2)
      | (go_at_call 45; with_reducible refine E2.mono ?_; rintro e w3 ⟨O3, rfl, R3⟩; obtain ⟨g0, g1, g2, z0, z1, z2⟩ := box_only (HO2.out.trans O3) hrb; have HR3 := hid R3; have HO3 := hid ((only_alloc _ _ _).trans (HO2.out.trans O3)); clear R3 O3)
      | fail)
    have B := Below.refl w.heap.size w3
    refine bodyPost_ret (by simp [results, Try.results39, go_sem, g0, g1, g2]; try rfl) rfl ?_
    exact ⟨HO3.out.then (by go_grown), rfl, HR3.out.below (base := w.heap.size) (by go_grown) hrb⟩
  · have T := (ktake_some rb c u _ (hR.below (base := w.heap.size) ((Below.refl w.heap.size w).alloc (Nat.le_refl _) (.cells #[.int .i64 0, .int .i64 0, .string ⟨#[]⟩] 38)) hrb) (by unfold maxLen; omega)).mono (R' := fun e w' => e = .returned (.int .u8 4) ∧ Rk w' rb u ∧ Only rb (w.alloc (.cells #[.int .i64 0, .int .i64 0, .string ⟨#[]⟩] 38)) w') (by rintro e w' ⟨h, r1, o1⟩; exact ⟨by rw [h, hc]; rfl, r1, o1⟩)
    clear hR hx
    go_enter Try.func39, Try.ntmps39
    go_wp2_with (first
      | (go_at_call 42; with_reducible refine T.mono ?_; rintro e w2 ⟨rfl, R2, O2⟩; have E2 := E w2 R2; have HO2 := hid O2; clear R2 O2)
      | (go_at_call 45; with_reducible refine E2.mono ?_; rintro e w3 ⟨O3, rfl, R3⟩; obtain ⟨g0, g1, g2, z0, z1, z2⟩ := box_only (HO2.out.trans O3) hrb; have HR3 := hid R3; have HO3 := hid ((only_alloc _ _ _).trans (HO2.out.trans O3)); clear R3 O3)
      | fail)
    have B := Below.refl w.heap.size w3
    refine bodyPost_ret (by simp [results, Try.results39, go_sem, g0, g1, g2]; try rfl) rfl ?_
    exact ⟨HO3.out.then (by go_grown), rfl, HR3.out.below (base := w.heap.size) (by go_grown) hrb⟩

set_option maxHeartbeats 1000000 in
theorem kv_text_bad (rb : Nat) (c : UInt8) (u : List UInt8) (w : World) (hR : Rk w rb (c :: u)) (hl : u.length + 1 ≤ 140737488351232) (k : Int) (hk : (c.toNat = 3 ∧ k = 3) ∨ (c.toNat = 4 ∧ k = 4)) (n : Int) (hx : txtG u = .error n) :
    Calls Try.prog 39 #[.pointer (some ⟨rb, 0, none⟩)] w (valEndW rb (.error n) w) := by
  have hrb := hR.lt
  have E := fun w2 (R2 : Rk w2 rb u) => ktext_any rb u w2 R2 (by omega)
  rw [hx] at E
  unfold textEndW at E
  simp only [] at E
  rcases hk with ⟨hc, rfl⟩ | ⟨hc, rfl⟩
  · have T := (ktake_some rb c u _ (hR.below (base := w.heap.size) ((Below.refl w.heap.size w).alloc (Nat.le_refl _) (.cells #[.int .i64 0, .int .i64 0, .string ⟨#[]⟩] 38)) hrb) (by unfold maxLen; omega)).mono (R' := fun e w' => e = .returned (.int .u8 3) ∧ Rk w' rb u ∧ Only rb (w.alloc (.cells #[.int .i64 0, .int .i64 0, .string ⟨#[]⟩] 38)) w') (by rintro e w' ⟨h, r1, o1⟩; exact ⟨by rw [h, hc]; rfl, r1, o1⟩)
    clear hR hx
    go_enter Try.func39, Try.ntmps39
    go_wp2_with (first
      | (go_at_call 42; with_reducible refine T.mono ?_; rintro e w2 ⟨rfl, R2, O2⟩; have E2 := E w2 R2; have HO2 := hid O2; clear R2 O2)
      | (go_at_call 45; with_reducible refine E2.mono ?_; rintro e w3 ⟨O3, rfl⟩)
      | fail)
    exact ⟨rfl, ((only_alloc _ _ _).trans HO2.out).trans O3, rfl⟩
  · have T := (ktake_some rb c u _ (hR.below (base := w.heap.size) ((Below.refl w.heap.size w).alloc (Nat.le_refl _) (.cells #[.int .i64 0, .int .i64 0, .string ⟨#[]⟩] 38)) hrb) (by unfold maxLen; omega)).mono (R' := fun e w' => e = .returned (.int .u8 4) ∧ Rk w' rb u ∧ Only rb (w.alloc (.cells #[.int .i64 0, .int .i64 0, .string ⟨#[]⟩] 38)) w') (by rintro e w' ⟨h, r1, o1⟩; exact ⟨by rw [h, hc]; rfl, r1, o1⟩)
    clear hR hx
    go_enter Try.func39, Try.ntmps39
    go_wp2_with (first
      | (go_at_call 42; with_reducible refine T.mono ?_; rintro e w2 ⟨rfl, R2, O2⟩; have E2 := E w2 R2; have HO2 := hid O2; clear R2 O2)
      | (go_at_call 45; with_reducible refine E2.mono ?_; rintro e w3 ⟨O3, rfl⟩)
      | fail)
    exact ⟨rfl, ((only_alloc _ _ _).trans HO2.out).trans O3, rfl⟩

theorem kvalue_any (rb : Nat) (u : List UInt8) (w : World) (hR : Rk w rb u) (hl : u.length ≤ 140737488351232) :
    Calls Try.prog 39 #[.pointer (some ⟨rb, 0, none⟩)] w (valEndW rb (valW u) w) := by
  cases u with
  | nil => exact kv_none rb w hR
  | cons c u =>
    have hl' : u.length + 1 ≤ 140737488351232 := by simpa using hl
    simp only [valW]
    by_cases h0 : c.toNat = 0
    · rw [if_pos h0]
      exact kv_null rb c u w hR hl' h0
    rw [if_neg h0]
    by_cases h1 : c.toNat = 1
    · rw [if_pos h1]
      cases u with
      | nil => exact kv_bool_none rb c w hR h1
      | cons d u =>
        simp only []
        by_cases hd : 1 < d.toNat
        · rw [if_pos hd]
          exact kv_bool_bad rb c d u w hR (by simpa using hl') h1 hd
        · rw [if_neg hd]
          exact kv_bool rb c d u w hR (by simpa using hl') h1 (by omega)
    rw [if_neg h1]
    by_cases h2 : c.toNat = 2
    · rw [if_pos h2]
      cases hx : numG 0 u with
      | error n => exact kv_int_bad rb c u w hR hl' h2 n hx
      | ok x =>
        obtain ⟨n, r⟩ := x
        exact kv_int rb c u w hR hl' h2 n r hx
    rw [if_neg h2]
    by_cases h4 : c.toNat = 3 ∨ c.toNat = 4
    · rw [if_pos h4]
      have hk : (c.toNat = 3 ∧ (c.toNat : Int) = 3) ∨ (c.toNat = 4 ∧ (c.toNat : Int) = 4) := by rcases h4 with h | h <;> rw [h] <;> simp
      cases hx : numG 0 u with
      | error n => exact kv_text_bad rb c u w hR hl' _ hk n (by unfold txtG; rw [hx])
      | ok x =>
        obtain ⟨n, r⟩ := x
        simp only []
        by_cases hr : r.length < n
        · rw [if_pos hr]
          exact kv_text_bad rb c u w hR hl' _ hk 1 (by unfold txtG; rw [hx]; simp only []; rw [if_pos hr])
        · rw [if_neg hr]
          exact kv_text rb c u w hR hl' _ hk _ _ (by unfold txtG; rw [hx]; simp only []; rw [if_neg hr])
    · rw [if_neg h4]
      exact kv_bad rb c u w hR hl' (by omega)
end Go.Proofs.Ytaoeonbhlpnjiaa
