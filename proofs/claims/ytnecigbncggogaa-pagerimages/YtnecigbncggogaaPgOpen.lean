/- What Open of the project's pager does. No conditions. -/
import Derived.Test.YtnecigbncggogaaPgCommit
namespace Go.Proofs.Ytnecigbncggogaa
open Go.RowKit
set_option linter.unusedVariables false
set_option maxRecDepth 20000
variable {s : Nat} {w0 w : World} {db : Nat} {d : Dk} {Z : Nat → Prop}

def genI : Option (Nat × Nat) → Int
  | none => -1
  | some x => (x.1 : Int)
def rootI : Option (Nat × Nat) → Int
  | none => 0
  | some x => (x.2 : Int)
def ncells (db : Nat) (o : Option (Nat × Nat)) : List Value := [.pointer (some ⟨db, 0, none⟩), .int .i64 (genI o), .int .i64 (rootI o), .bool false]
theorem ncell1 {w : World} {g db : Nat} {o : Option (Nat × Nat)} {t : TypeId} (h : Blk w g (ncells db o) t) : w.cell? ⟨g, 1, none⟩ = some (.int .i64 (genI o)) := h.cell 1
theorem ncell2 {w : World} {g db : Nat} {o : Option (Nat × Nat)} {t : TypeId} (h : Blk w g (ncells db o) t) : w.cell? ⟨g, 2, none⟩ = some (.int .i64 (rootI o)) := h.cell 2
theorem nset {w : World} {g db x1 x2 : Nat} {o : Option (Nat × Nat)} {t : TypeId} (h : Blk w g (ncells db o) t) : Blk ((w.setCell ⟨g, 1, none⟩ (.int .i64 (x1 : Int))).setCell ⟨g, 2, none⟩ (.int .i64 (x2 : Int))) g (ncells db (some (x1, x2))) t := Blk.set (i := 2) (Blk.set (i := 1) h _) _
theorem Blk.drewN {w : World} {g n : Nat} {cs : List Value} {t : TypeId} (h : Blk w g cs t) : Blk (w.drewN n) g cs t := h
/-- The newest head of the first pages. -/
def Nk (d : Dk) : Nat → Option (Nat × Nat)
  | 0 => none
  | k + 1 => newer (Nk d k) (readHead (d.has (k : Int)) k d.pages)
theorem newer_none (x : Option (Nat × Nat)) : newer none x = x := by cases x <;> rfl
theorem Nk_two (d : Dk) : Nk d 2 = d.newestHead := by
  show newer (newer none (readHead (d.has 0) 0 d.pages)) (readHead (d.has 1) 1 d.pages) = _
  rw [newer_none]
  rfl
theorem Nk_gen (d : Dk) : ∀ k x, Nk d k = some x → x.1 ≤ 4611686018427387904
  | 0, x, h => by cases h
  | k + 1, x, h => by
    have ih := Nk_gen d k
    have h' : newer (Nk d k) (readHead (d.has (k : Int)) k d.pages) = some x := h
    cases hr : readHead (d.has (k : Int)) k d.pages with
    | none =>
      rw [hr] at h'
      have e : newer (Nk d k) none = Nk d k := by cases Nk d k <;> rfl
      rw [e] at h'
      exact ih x h'
    | some y =>
      have hy := (readHead_some (show readHead (d.has (k : Int)) k d.pages = some (y.1, y.2) from hr)).2.2.2.1
      rw [hr] at h'
      cases ho : Nk d k with
      | none => rw [ho] at h'; simp only [newer, Option.some.injEq] at h'; rw [← h']; exact hy
      | some a =>
        rw [ho] at h'
        simp only [newer] at h'
        split at h'
        · simp only [Option.some.injEq] at h'; rw [← h']; exact hy
        · simp only [Option.some.injEq] at h'; rw [← h']; exact ih a ho
theorem newer_up {o : Option (Nat × Nat)} {x : Nat × Nat} (h : genI o < (x.1 : Int)) : newer o (some x) = some x := by
  cases o with
  | none => rfl
  | some a => simp only [genI] at h; simp only [newer]; rw [if_pos (by omega)]
theorem newer_stay {o : Option (Nat × Nat)} {x : Nat × Nat} (h : ¬ genI o < (x.1 : Int)) : newer o (some x) = o := by
  cases o with
  | none => exact absurd (show (-1 : Int) < (x.1 : Int) by omega) h
  | some a => simp only [genI] at h; simp only [newer]; rw [if_neg (by omega)]
theorem newer_no (o : Option (Nat × Nat)) : newer o none = o := by cases o <;> rfl
set_option maxHeartbeats 1000000 in
theorem open_few (h : DW s w0 w db d Z) (hp : d.pages < 3) :
    Calls Try.prog 29 #[.pointer (some ⟨db, 0, none⟩)] w fun e w' => e = .returned (.tuple #[.pointer none, .int .i64 2]) ∧ w' = w := by
  have C := hid h.pages
  have hp' : (d.pages : Int) < 3 := by omega
  clear h hp
  go_enter Try.func29, Try.ntmps29
  go_wp2_with (first
    | (go_at_call 39; go_loud (with_reducible refine C.out.mono ?_); rintro e w3 ⟨rfl, hw⟩; subst w3)
    | fail)
  go_ret2
  exact ⟨rfl, rfl⟩
/-- What Open ends with. -/
def opEnd (w : World) (db : Nat) (d : Dk) (e : Ending) (w' : World) : Prop :=
  Below w.heap.size w w' ∧ match d.newestHead with
    | none => e = .returned (.tuple #[.pointer none, .int .i64 10])
    | some x => ∃ pb, w.heap.size ≤ pb ∧ e = .returned (.tuple #[.pointer (some ⟨pb, 0, none⟩), .int .i64 0]) ∧ Pag w' pb db ⟨x.1, x.2, false⟩
set_option maxHeartbeats 1000000 in
theorem open_down (h : DW s w0 w db d Z) (hp : ¬ d.pages < 3) (hd : d.down = true) :
    Calls Try.prog 29 #[.pointer (some ⟨db, 0, none⟩)] w fun e w' => e = .returned (.tuple #[.pointer none, .int .i64 9]) ∧ Below w.heap.size w w' := by
  have C := hid h.pages
  have HB0 : Hid (Below w.heap.size w (w.alloc (.cells #[.pointer (some ⟨db, 0, none⟩), .int .i64 (-1), .int .i64 0, .bool false] 97))) := (Below.refl _ _).alloc (Nat.le_refl _) _
  have hr : ∀ n, d.reach n = 9 := fun n => by unfold Dk.reach; rw [hd]; rfl
  have C2 := (h.grow HB0.out).readBad 0 (by rw [hr]; decide)
  rw [hr] at C2
  have HC2 := hid C2
  have hp' : ¬ (d.pages : Int) < 3 := by omega
  clear h hp C2 hr
  go_enter Try.func29, Try.ntmps29
  go_wp2_with (first
    | (go_at_call 39; go_loud (with_reducible refine C.out.mono ?_); rintro e w3 ⟨rfl, hw⟩; subst w3)
    | fail)
  go_loopw [17] (fun i wr => i = .int .i64 0 ∧ wr = w.alloc (.cells #[.pointer (some ⟨db, 0, none⟩), .int .i64 (-1), .int .i64 0, .bool false] 97)) (fun i _ => 0)
  case atStart => exact ⟨rfl, rfl⟩
  case round =>
    obtain ⟨rfl, rfl⟩ := hrel
    go_wp2_with (first
      | (go_at_call 37; go_loud (with_reducible refine HC2.out.mono ?_); rintro e w3 ⟨rfl, hw⟩; subst w3)
      | fail)
    go_ret2
    exact ⟨rfl, HB0.out⟩
set_option maxHeartbeats 4000000 in
theorem open_ok (h : DW s w0 w db d Z) (hp : ¬ d.pages < 3) (hd : d.down = false) :
    Calls Try.prog 29 #[.pointer (some ⟨db, 0, none⟩)] w (opEnd w db d) := by
  have C := hid h.pages
  have HB0 : Hid (Below w.heap.size w (w.alloc (.cells #[.pointer (some ⟨db, 0, none⟩), .int .i64 (-1), .int .i64 0, .bool false] 97))) := (Below.refl _ _).alloc (Nat.le_refl _) _
  have HN0 := hid (Blk.new w (ncells db none) 97)
  have hp' : ¬ (d.pages : Int) < 3 := by omega
  have HR : Hid (∀ k : Nat, k < 2 → d.reach (k : Int) = 0) := fun k hk => by
    unfold Dk.reach; rw [hd, if_neg (by decide), if_neg (by omega)]
  have HH := hid h
  have HDP : Hid (w.heap.size < (w.alloc (.cells #[.pointer (some ⟨db, 0, none⟩), .int .i64 (-1), .int .i64 0, .bool false] 97)).heap.size) := by show _ < _; simp
  clear h hp hd
  go_enter Try.func29, Try.ntmps29
  go_wp2_with (first
    | (go_at_call 39; go_loud (with_reducible refine C.out.mono ?_); rintro e w3 ⟨rfl, hw⟩; subst w3)
    | fail)
  go_loopw [17] (fun i wr => ∃ k : Nat, k ≤ 2 ∧ i = .int .i64 (k : Int) ∧ Blk wr w.heap.size (ncells db (Nk d k)) 97 ∧ Below w.heap.size w wr) (fun i _ => 2 - (RowKit.intOf i).toNat)
  case atStart => exact ⟨0, by decide, rfl, HN0.out, HB0.out⟩
  case round =>
    obtain ⟨k, hk, rfl, B1, L1⟩ := hrel
    clear HN0 HB0 HDP C
    have HB1 := hid B1
    have HL1 := hid L1
    have n1 : wr.cell? ⟨w.heap.size, 1, none⟩ = some (.int .i64 (genI (Nk d k))) := B1.cell 1
    clear B1 L1
    by_cases hx : k < 2
    · have HC1 := hid ((HH.out.grow HL1.out).read (k : Int) (HR.out k hx))
      have HLn : Hid ((d.has (k : Int)).length = 512) := HH.out.okk.has _
      have HNk : Hid (Nk d (k + 1) = newer (Nk d k) (readHead (d.has (k : Int)) k d.pages)) := rfl
      have HC2 : Hid (∀ w5 : World, Below w.heap.size w w5 → Calls Try.prog 39 #[.pointer (some ⟨db, 0, none⟩)] w5 fun e w' => e = .returned (.int .i64 (d.pages : Int)) ∧ w' = w5) := fun w5 B5 => (HH.out.grow B5).pages
      have HC3 : Hid (∀ (w5 : World) (g : Nat), Pg w5 g (d.has (k : Int)) → Calls Try.prog 63 #[.slice (some ⟨g, 0, none⟩) 512 512, .int .i64 (k : Int), .int .i64 (d.pages : Int)] w5 fun e w' => e = .returned (headV (readHead (d.has (k : Int)) k d.pages)) ∧ Below w5.heap.size w5 w') := fun w5 g b5 => headof_any g (d.has (k : Int)) k d.pages w5 HLn.out b5.blk.byts'
      have hgen : ∀ x, readHead (d.has (k : Int)) k d.pages = some x → x.1 ≤ 4611686018427387904 := fun x hx => (readHead_some (show readHead (d.has (k : Int)) k d.pages = some (x.1, x.2) from hx)).2.2.2.1
      generalize readHead (d.has (k : Int)) k d.pages = rh at *
      generalize d.has (k : Int) = pgk at *
      cases rh with
      | none =>
        rw [newer_no] at HNk
        unfold headV at HC3
        clear hgen
        go_wp2_with (first
          | (go_at_call 37; go_loud (with_reducible refine HC1.out.mono ?_); rintro e w3 ⟨rfl, G3, L3, S3⟩; have HG3 := hid G3; have HL3 := hid (HL1.out.trans (L3.mono HL1.out.size)); have HB3 := hid (HB1.out.below L3 HB1.out.lt); clear G3 L3 S3)
          | (go_at_call 39; go_loud (with_reducible refine (HC2.out _ HL3.out).mono ?_); rintro e w4 ⟨rfl, hw⟩; subst w4)
          | (go_at_call 63; go_loud (with_reducible refine (HC3.out _ _ HG3.out).mono ?_); rintro e w5 ⟨rfl, L5⟩; have HL5 := hid (HL3.out.trans (L5.mono HL3.out.size)); have HB5 := hid (HB3.out.below L5 HB3.out.lt); clear L5)
          | fail)
        go_quiet (fail)
        have HBn := hid (HB5.out.alloc (.cells #[.int .i64 0, .int .i64 0] 88))
        go_wp2
        go_roundw
        case rel => exact ⟨k + 1, hx, rfl, by rw [HNk.out]; exact HBn.out, below_dn (HL5.out.alloc (HL5.out.size) _) _⟩
        case measure => simp [RowKit.intOf]; omega
      | some x =>
        obtain ⟨x1, x2⟩ := x
        have hg := hgen _ rfl
        unfold headV at HC3
        clear hgen
        by_cases hlt : genI (Nk d k) < (x1 : Int)
        · rw [newer_up hlt] at HNk
          have hdc : decide (genI (Nk d k) < (x1 : Int)) = true := by simp [hlt]
          go_wp2_with (first
            | (go_at_call 37; go_loud (with_reducible refine HC1.out.mono ?_); rintro e w3 ⟨rfl, G3, L3, S3⟩; have HG3 := hid G3; have HL3 := hid (HL1.out.trans (L3.mono HL1.out.size)); have HB3 := hid (HB1.out.below L3 HB1.out.lt); clear G3 L3 S3)
            | (go_at_call 39; go_loud (with_reducible refine (HC2.out _ HL3.out).mono ?_); rintro e w4 ⟨rfl, hw⟩; subst w4)
            | (go_at_call 63; go_loud (with_reducible refine (HC3.out _ _ HG3.out).mono ?_); rintro e w5 ⟨rfl, L5⟩; have HL5 := hid (HL3.out.trans (L5.mono HL3.out.size)); have HB5 := hid (HB3.out.below L5 HB3.out.lt); have HB6 := hid (HB5.out.alloc (.cells #[.int .i64 (x1 : Int), .int .i64 (x2 : Int)] 88)); have m61 := ncell1 HB6.out; have m62 := ncell2 HB6.out; have f61 := HB6.out.frozen 1; have f62 := HB6.out.frozen 2; have HN6 := hid (Blk.new w5 [.int .i64 (x1 : Int), .int .i64 (x2 : Int)] 88); have k60 := HN6.out.cell 0; have k61 := HN6.out.cell 1; clear L5)
            | fail)
          go_quiet (fail)
          go_wp2
          go_roundw
          case rel => exact ⟨k + 1, hx, rfl, by rw [HNk.out]; exact nset HB6.out.drewN, ((below_dn (HL5.out.alloc (HL5.out.size) _) _).setCell (Nat.le_refl _) _).setCell (Nat.le_refl _) _⟩
          case measure => simp [RowKit.intOf]; omega
        · rw [newer_stay hlt] at HNk
          have hdc : decide (genI (Nk d k) < (x1 : Int)) = false := by simp [hlt]
          go_wp2_with (first
            | (go_at_call 37; go_loud (with_reducible refine HC1.out.mono ?_); rintro e w3 ⟨rfl, G3, L3, S3⟩; have HG3 := hid G3; have HL3 := hid (HL1.out.trans (L3.mono HL1.out.size)); have HB3 := hid (HB1.out.below L3 HB1.out.lt); clear G3 L3 S3)
            | (go_at_call 39; go_loud (with_reducible refine (HC2.out _ HL3.out).mono ?_); rintro e w4 ⟨rfl, hw⟩; subst w4)
            | (go_at_call 63; go_loud (with_reducible refine (HC3.out _ _ HG3.out).mono ?_); rintro e w5 ⟨rfl, L5⟩; have HL5 := hid (HL3.out.trans (L5.mono HL3.out.size)); have HB5 := hid (HB3.out.below L5 HB3.out.lt); have HB6 := hid (HB5.out.alloc (.cells #[.int .i64 (x1 : Int), .int .i64 (x2 : Int)] 88)); have m61 := ncell1 HB6.out; have m62 := ncell2 HB6.out; have f61 := HB6.out.frozen 1; have f62 := HB6.out.frozen 2; have HN6 := hid (Blk.new w5 [.int .i64 (x1 : Int), .int .i64 (x2 : Int)] 88); have k60 := HN6.out.cell 0; have k61 := HN6.out.cell 1; clear L5)
            | fail)
          go_quiet (fail)
          go_wp2
          go_roundw
          case rel => exact ⟨k + 1, hx, rfl, by rw [HNk.out]; exact HB6.out.drewN, below_dn (HL5.out.alloc (HL5.out.size) _) _⟩
          case measure => simp [RowKit.intOf]; omega
    · obtain rfl : k = 2 := by omega
      rw [Nk_two] at HB1 n1
      cases hN : d.newestHead with
      | none =>
        rw [hN] at n1
        have n1' : wr.cell? ⟨w.heap.size, 1, none⟩ = some (.int .i64 (-1)) := n1
        clear n1
        go_wp2
        go_ret2
        unfold opEnd
        rw [hN]
        exact ⟨HL1.out, rfl⟩
      | some x =>
        rw [hN] at n1 HB1
        have n1' : wr.cell? ⟨w.heap.size, 1, none⟩ = some (.int .i64 (x.1 : Int)) := n1
        have hge : ¬ ((x.1 : Int) < 0) := by omega
        clear n1
        go_wp2
        go_ret2
        unfold opEnd
        rw [hN]
        exact ⟨HL1.out, _, Nat.le_refl _, rfl, HB1.out⟩
theorem DW.open_ (h : DW s w0 w db d Z) :
    Calls Try.prog 29 #[.pointer (some ⟨db, 0, none⟩)] w fun e w' => Below w.heap.size w w' ∧ (d.openErr ≠ 0 → e = .returned (.tuple #[.pointer none, .int .i64 d.openErr])) ∧ (d.openErr = 0 → ∃ pb x, d.newestHead = some x ∧ w.heap.size ≤ pb ∧ e = .returned (.tuple #[.pointer (some ⟨pb, 0, none⟩), .int .i64 0]) ∧ Pag w' pb db ⟨x.1, x.2, false⟩) := by
  unfold Dk.openErr
  by_cases hp : d.pages < 3
  · rw [if_pos hp]
    refine (open_few h hp).mono ?_
    rintro e w' ⟨he, rfl⟩
    exact ⟨Below.refl _ _, fun _ => he, fun q => by cases q⟩
  · rw [if_neg hp]
    cases hd : d.down
    · rw [if_neg (by decide)]
      refine (open_ok h hp hd).mono ?_
      rintro e w' ⟨B, he⟩
      cases hN : d.newestHead with
      | none =>
        rw [hN] at he
        rw [if_pos rfl]
        exact ⟨B, fun _ => he, fun q => by cases q⟩
      | some x =>
        rw [hN] at he
        rw [if_neg (by simp)]
        obtain ⟨pb, h1, h2, h3⟩ := he
        exact ⟨B, fun q => absurd rfl q, fun _ => ⟨pb, x, rfl, h1, h2, h3⟩⟩
    · rw [if_pos rfl]
      refine (open_down h hp hd).mono ?_
      rintro e w' ⟨he, B⟩
      exact ⟨B, fun _ => he, fun q => by cases q⟩
end Go.Proofs.Ytnecigbncggogaa
