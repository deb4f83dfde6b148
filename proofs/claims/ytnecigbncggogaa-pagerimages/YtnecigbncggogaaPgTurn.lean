/- What inTurn does with the steps of Format and of a commit; what Format does. Condition: fewer than a million writes are pending. -/
import Derived.Test.YtnecigbncggogaaPgBase
namespace Go.Proofs.Ytnecigbncggogaa
open Go.RowKit
set_option linter.unusedVariables false
set_option maxRecDepth 20000
variable {s : Nat} {w0 w : World} {db : Nat} {d : Dk} {Z : Nat → Prop}

theorem err_eq {a b : Int} (h : a = b) : Ending.returned (Value.int .i64 a) = Ending.returned (Value.int .i64 b) := by rw [h]
def seqErr (e0 e1 e2 : Int) : Int := if e0 ≠ 0 then e0 else if e1 ≠ 0 then e1 else e2
def seqDk (e0 e1 : Int) (d1 d2 d3 : Dk) : Dk := if e0 ≠ 0 then d1 else if e1 ≠ 0 then d2 else d3
set_option maxHeartbeats 2000000 in
theorem inturn_fmt (bx : Nat) (sb : Nat) (e0 e1 e2 : Int) (d1 d2 d3 : Dk) (h : DW s w0 w db d Z) (hz : Z sb)
    (B : Blk w sb [.func (.func 41) #[] #[.pointer (some ⟨bx, 0, none⟩)], .func (.func 43) #[] #[.pointer (some ⟨bx, 0, none⟩)], .func (.func 44) #[.pointer (some ⟨db, 0, none⟩)] #[]] 89)
    (H0 : ∀ w' : World, DW s w0 w' db d Z → Kept (old s Z) w w' → Calls Try.prog 41 #[.pointer (some ⟨bx, 0, none⟩)] w' fun e w'' => e = .returned (.int .i64 e0) ∧ DW s w0 w'' db d1 Z ∧ Kept (old s Z) w' w'')
    (H1 : ∀ w' : World, DW s w0 w' db d1 Z → Kept (old s Z) w w' → Calls Try.prog 43 #[.pointer (some ⟨bx, 0, none⟩)] w' fun e w'' => e = .returned (.int .i64 e1) ∧ DW s w0 w'' db d2 Z ∧ Kept (old s Z) w' w'')
    (H2 : ∀ w' : World, DW s w0 w' db d2 Z → Kept (old s Z) w w' → Calls Try.prog 44 #[.pointer (some ⟨db, 0, none⟩)] w' fun e w'' => e = .returned (.int .i64 e2) ∧ DW s w0 w'' db d3 Z ∧ Kept (old s Z) w' w'') :
    Calls Try.prog 40 #[.slice (some ⟨sb, 0, none⟩) 3 3] w fun e w' => e = .returned (.int .i64 (seqErr e0 e1 e2)) ∧ DW s w0 w' db (seqDk e0 e1 d1 d2 d3) Z ∧ Kept (old s Z) w w' := by
  have HD := hid h
  have HB := hid B
  have HH0 := hid H0
  have HH1 := hid H1
  have HH2 := hid H2
  have hzz := hid hz
  clear h B H0 H1 H2 hz
  go_enter Try.func40, Try.ntmps40
  go_wp2
  go_loopw [8] (fun i wr => Kept (old s Z) w wr ∧ ((i = .int .i64 0 ∧ DW s w0 wr db d Z) ∨ (i = .int .i64 1 ∧ e0 = 0 ∧ DW s w0 wr db d1 Z) ∨ (i = .int .i64 2 ∧ e0 = 0 ∧ e1 = 0 ∧ DW s w0 wr db d2 Z) ∨ (i = .int .i64 3 ∧ e0 = 0 ∧ e1 = 0 ∧ e2 = 0 ∧ DW s w0 wr db d3 Z))) (fun i _ => 3 - (RowKit.intOf i).toNat)
  case atStart => exact ⟨Kept.refl _ _, Or.inl ⟨rfl, HD.out⟩⟩
  case round =>
    obtain ⟨K, hr⟩ := hrel
    have HK := hid K
    have hb := K.blk HB.out (Or.inr hzz.out)
    have f0 := hb.cell 0
    have f1 := hb.cell 1
    have f2 := hb.cell 2
    clear K hb HD HB
    rcases hr with ⟨rfl, D⟩ | ⟨rfl, rfl, D⟩ | ⟨rfl, rfl, rfl, D⟩ | ⟨rfl, rfl, rfl, rfl, D⟩
    · have HDD := hid D
      have HC := hid (HH0.out wr D HK.out)
      clear D f1 f2
      by_cases he : e0 = 0
      · subst he
        go_wp2_with (first
          | (go_at_call 41; go_loud (with_reducible refine HC.out.mono ?_); rintro e w3 ⟨rfl, D3, K3⟩; have HD3 := hid D3; have HK3 := hid (HK.out.trans K3); clear D3 K3)
          | fail)
        go_roundw
        case rel => exact ⟨HK3.out, Or.inr (Or.inl ⟨rfl, trivial, HD3.out⟩)⟩
        case measure => simp [RowKit.intOf]
      · have hb : (e0 == 0) = false := by simpa using he
        have HE := hid he
        go_wp2_with (first
          | (go_at_call 41; go_loud (with_reducible refine HC.out.mono ?_); rintro e w3 ⟨rfl, D3, K3⟩; have HD3 := hid D3; have HK3 := hid (HK.out.trans K3); clear D3 K3)
          | fail)
        go_ret
        exact ⟨err_eq (by unfold seqErr; rw [if_pos HE.out]), by unfold seqDk; rw [if_pos HE.out]; exact HD3.out, HK3.out⟩
    · have HDD := hid D
      have HC := hid (HH1.out wr D HK.out)
      clear D f0 f2
      by_cases he : e1 = 0
      · subst he
        go_wp2_with (first
          | (go_at_call 43; go_loud (with_reducible refine HC.out.mono ?_); rintro e w3 ⟨rfl, D3, K3⟩; have HD3 := hid D3; have HK3 := hid (HK.out.trans K3); clear D3 K3)
          | fail)
        go_roundw
        case rel => exact ⟨HK3.out, Or.inr (Or.inr (Or.inl ⟨rfl, trivial, trivial, HD3.out⟩))⟩
        case measure => simp [RowKit.intOf]
      · have hb : (e1 == 0) = false := by simpa using he
        have HE := hid he
        go_wp2_with (first
          | (go_at_call 43; go_loud (with_reducible refine HC.out.mono ?_); rintro e w3 ⟨rfl, D3, K3⟩; have HD3 := hid D3; have HK3 := hid (HK.out.trans K3); clear D3 K3)
          | fail)
        go_ret
        exact ⟨err_eq (by unfold seqErr; rw [if_neg (by simp), if_pos HE.out]), by unfold seqDk; rw [if_neg (by simp), if_pos HE.out]; exact HD3.out, HK3.out⟩
    · have HDD := hid D
      have HC := hid (HH2.out wr D HK.out)
      clear D f0 f1
      by_cases he : e2 = 0
      · subst he
        go_wp2_with (first
          | (go_at_call 44; go_loud (with_reducible refine HC.out.mono ?_); rintro e w3 ⟨rfl, D3, K3⟩; have HD3 := hid D3; have HK3 := hid (HK.out.trans K3); clear D3 K3)
          | fail)
        go_roundw
        case rel => exact ⟨HK3.out, Or.inr (Or.inr (Or.inr ⟨rfl, trivial, trivial, trivial, HD3.out⟩))⟩
        case measure => simp [RowKit.intOf]
      · have hb : (e2 == 0) = false := by simpa using he
        have HE := hid he
        go_wp2_with (first
          | (go_at_call 44; go_loud (with_reducible refine HC.out.mono ?_); rintro e w3 ⟨rfl, D3, K3⟩; have HD3 := hid D3; have HK3 := hid (HK.out.trans K3); clear D3 K3)
          | fail)
        go_ret
        exact ⟨err_eq (by unfold seqErr; rw [if_neg (by simp), if_neg (by simp)]), by unfold seqDk; rw [if_neg (by simp), if_neg (by simp)]; exact HD3.out, HK3.out⟩
    · have HDD := hid D
      clear D
      go_wp2
      go_ret
      exact ⟨err_eq (by unfold seqErr; simp), by unfold seqDk; simp only [ne_eq, not_true_eq_false, if_false]; exact HDD.out, HK.out⟩
set_option maxHeartbeats 2000000 in
theorem inturn_cm (bp bh : Nat) (sb : Nat) (e0 e1 e2 : Int) (d1 d2 d3 : Dk) (h : DW s w0 w db d Z) (hz : Z sb)
    (B : Blk w sb [.func (.func 44) #[.pointer (some ⟨db, 0, none⟩)] #[], .func (.func 60) #[] #[.pointer (some ⟨bp, 0, none⟩), .pointer (some ⟨bh, 0, none⟩)], .func (.func 44) #[.pointer (some ⟨db, 0, none⟩)] #[]] 89)
    (H0 : ∀ w' : World, DW s w0 w' db d Z → Kept (old s Z) w w' → Calls Try.prog 44 #[.pointer (some ⟨db, 0, none⟩)] w' fun e w'' => e = .returned (.int .i64 e0) ∧ DW s w0 w'' db d1 Z ∧ Kept (old s Z) w' w'')
    (H1 : ∀ w' : World, DW s w0 w' db d1 Z → Kept (old s Z) w w' → Calls Try.prog 60 #[.pointer (some ⟨bp, 0, none⟩), .pointer (some ⟨bh, 0, none⟩)] w' fun e w'' => e = .returned (.int .i64 e1) ∧ DW s w0 w'' db d2 Z ∧ Kept (old s Z) w' w'')
    (H2 : ∀ w' : World, DW s w0 w' db d2 Z → Kept (old s Z) w w' → Calls Try.prog 44 #[.pointer (some ⟨db, 0, none⟩)] w' fun e w'' => e = .returned (.int .i64 e2) ∧ DW s w0 w'' db d3 Z ∧ Kept (old s Z) w' w'') :
    Calls Try.prog 40 #[.slice (some ⟨sb, 0, none⟩) 3 3] w fun e w' => e = .returned (.int .i64 (seqErr e0 e1 e2)) ∧ DW s w0 w' db (seqDk e0 e1 d1 d2 d3) Z ∧ Kept (old s Z) w w' := by
  have HD := hid h
  have HB := hid B
  have HH0 := hid H0
  have HH1 := hid H1
  have HH2 := hid H2
  have hzz := hid hz
  clear h B H0 H1 H2 hz
  go_enter Try.func40, Try.ntmps40
  go_wp2
  go_loopw [8] (fun i wr => Kept (old s Z) w wr ∧ ((i = .int .i64 0 ∧ DW s w0 wr db d Z) ∨ (i = .int .i64 1 ∧ e0 = 0 ∧ DW s w0 wr db d1 Z) ∨ (i = .int .i64 2 ∧ e0 = 0 ∧ e1 = 0 ∧ DW s w0 wr db d2 Z) ∨ (i = .int .i64 3 ∧ e0 = 0 ∧ e1 = 0 ∧ e2 = 0 ∧ DW s w0 wr db d3 Z))) (fun i _ => 3 - (RowKit.intOf i).toNat)
  case atStart => exact ⟨Kept.refl _ _, Or.inl ⟨rfl, HD.out⟩⟩
  case round =>
    obtain ⟨K, hr⟩ := hrel
    have HK := hid K
    have hb := K.blk HB.out (Or.inr hzz.out)
    have f0 := hb.cell 0
    have f1 := hb.cell 1
    have f2 := hb.cell 2
    clear K hb HD HB
    rcases hr with ⟨rfl, D⟩ | ⟨rfl, rfl, D⟩ | ⟨rfl, rfl, rfl, D⟩ | ⟨rfl, rfl, rfl, rfl, D⟩
    · have HDD := hid D
      have HC := hid (HH0.out wr D HK.out)
      clear D f1 f2
      by_cases he : e0 = 0
      · subst he
        go_wp2_with (first
          | (go_at_call 44; go_loud (with_reducible refine HC.out.mono ?_); rintro e w3 ⟨rfl, D3, K3⟩; have HD3 := hid D3; have HK3 := hid (HK.out.trans K3); clear D3 K3)
          | fail)
        go_roundw
        case rel => exact ⟨HK3.out, Or.inr (Or.inl ⟨rfl, trivial, HD3.out⟩)⟩
        case measure => simp [RowKit.intOf]
      · have hb : (e0 == 0) = false := by simpa using he
        have HE := hid he
        go_wp2_with (first
          | (go_at_call 44; go_loud (with_reducible refine HC.out.mono ?_); rintro e w3 ⟨rfl, D3, K3⟩; have HD3 := hid D3; have HK3 := hid (HK.out.trans K3); clear D3 K3)
          | fail)
        go_ret
        exact ⟨err_eq (by unfold seqErr; rw [if_pos HE.out]), by unfold seqDk; rw [if_pos HE.out]; exact HD3.out, HK3.out⟩
    · have HDD := hid D
      have HC := hid (HH1.out wr D HK.out)
      clear D f0 f2
      by_cases he : e1 = 0
      · subst he
        go_wp2_with (first
          | (go_at_call 60; go_loud (with_reducible refine HC.out.mono ?_); rintro e w3 ⟨rfl, D3, K3⟩; have HD3 := hid D3; have HK3 := hid (HK.out.trans K3); clear D3 K3)
          | fail)
        go_roundw
        case rel => exact ⟨HK3.out, Or.inr (Or.inr (Or.inl ⟨rfl, trivial, trivial, HD3.out⟩))⟩
        case measure => simp [RowKit.intOf]
      · have hb : (e1 == 0) = false := by simpa using he
        have HE := hid he
        go_wp2_with (first
          | (go_at_call 60; go_loud (with_reducible refine HC.out.mono ?_); rintro e w3 ⟨rfl, D3, K3⟩; have HD3 := hid D3; have HK3 := hid (HK.out.trans K3); clear D3 K3)
          | fail)
        go_ret
        exact ⟨err_eq (by unfold seqErr; rw [if_neg (by simp), if_pos HE.out]), by unfold seqDk; rw [if_neg (by simp), if_pos HE.out]; exact HD3.out, HK3.out⟩
    · have HDD := hid D
      have HC := hid (HH2.out wr D HK.out)
      clear D f0 f1
      by_cases he : e2 = 0
      · subst he
        go_wp2_with (first
          | (go_at_call 44; go_loud (with_reducible refine HC.out.mono ?_); rintro e w3 ⟨rfl, D3, K3⟩; have HD3 := hid D3; have HK3 := hid (HK.out.trans K3); clear D3 K3)
          | fail)
        go_roundw
        case rel => exact ⟨HK3.out, Or.inr (Or.inr (Or.inr ⟨rfl, trivial, trivial, trivial, HD3.out⟩))⟩
        case measure => simp [RowKit.intOf]
      · have hb : (e2 == 0) = false := by simpa using he
        have HE := hid he
        go_wp2_with (first
          | (go_at_call 44; go_loud (with_reducible refine HC.out.mono ?_); rintro e w3 ⟨rfl, D3, K3⟩; have HD3 := hid D3; have HK3 := hid (HK.out.trans K3); clear D3 K3)
          | fail)
        go_ret
        exact ⟨err_eq (by unfold seqErr; rw [if_neg (by simp), if_neg (by simp)]), by unfold seqDk; rw [if_neg (by simp), if_neg (by simp)]; exact HD3.out, HK3.out⟩
    · have HDD := hid D
      clear D
      go_wp2
      go_ret
      exact ⟨err_eq (by unfold seqErr; simp), by unfold seqDk; simp only [ne_eq, not_true_eq_false, if_false]; exact HDD.out, HK.out⟩
set_option maxHeartbeats 1000000 in
theorem fmt1_any (bx : Nat) (h : DW s w0 w db d Z) (hb : w.cell? ⟨bx, 0, none⟩ = some (.pointer (some ⟨db, 0, none⟩))) (hm : d.pend.length < 1000000) :
    Calls Try.prog 41 #[.pointer (some ⟨bx, 0, none⟩)] w fun e w' => e = .returned (.int .i64 (d.wrErr 0 (headPage 0 0))) ∧ DW s w0 w' db (d.wr 0 (headPage 0 0)) Z ∧ Kept (old s Z) w w' := by
  have C : Hid (Calls Try.prog 42 #[.pointer (some ⟨db, 0, none⟩), .agg #[.int .i64 0, .int .i64 0]] w fun e w' => e = .returned (.int .i64 (d.wrErr 0 (headPage 0 0))) ∧ DW s w0 w' db (d.wr 0 (headPage 0 0)) Z ∧ Kept (old s Z) w w') := lay_any 0 0 h (by decide) (by decide) hm
  clear h
  go_enter Try.func41, Try.ntmps41
  go_wp2_with (first
    | (go_at_call 42; go_loud (with_reducible refine C.out.mono ?_); rintro e w3 ⟨rfl, D3, K3⟩; have HD3 := hid D3; have HK3 := hid K3; clear D3 K3)
    | fail)
  go_ret
  exact ⟨rfl, HD3.out, HK3.out⟩
set_option maxHeartbeats 1000000 in
theorem fmt2_any (bx : Nat) (h : DW s w0 w db d Z) (hb : w.cell? ⟨bx, 0, none⟩ = some (.pointer (some ⟨db, 0, none⟩))) (hm : d.pend.length < 1000000) :
    Calls Try.prog 43 #[.pointer (some ⟨bx, 0, none⟩)] w fun e w' => e = .returned (.int .i64 (d.wrErr 1 (headPage 1 0))) ∧ DW s w0 w' db (d.wr 1 (headPage 1 0)) Z ∧ Kept (old s Z) w w' := by
  have C : Hid (Calls Try.prog 42 #[.pointer (some ⟨db, 0, none⟩), .agg #[.int .i64 1, .int .i64 0]] w fun e w' => e = .returned (.int .i64 (d.wrErr 1 (headPage 1 0))) ∧ DW s w0 w' db (d.wr 1 (headPage 1 0)) Z ∧ Kept (old s Z) w w') := lay_any 1 0 h (by decide) (by decide) hm
  clear h
  go_enter Try.func43, Try.ntmps43
  go_wp2_with (first
    | (go_at_call 42; go_loud (with_reducible refine C.out.mono ?_); rintro e w3 ⟨rfl, D3, K3⟩; have HD3 := hid D3; have HK3 := hid K3; clear D3 K3)
    | fail)
  go_ret
  exact ⟨rfl, HD3.out, HK3.out⟩
theorem Dk.pend_wr (d : Dk) (n : Int) (b : List UInt8) : (d.wr n b).pend.length ≤ d.pend.length + 1 := by
  unfold Dk.wr
  have e : d.stepped.pend = d.pend := by unfold Dk.stepped; split <;> (try split) <;> rfl
  split
  · omega
  · split
    · omega
    · split
      · rw [e]; omega
      · show (d.stepped.pend ++ [_]).length ≤ _
        rw [e, List.length_append]; simp
theorem Dk.pend_sy (d : Dk) : d.sy.pend.length ≤ d.pend.length := by
  unfold Dk.sy
  have e : d.stepped.pend = d.pend := by unfold Dk.stepped; split <;> (try split) <;> rfl
  split
  · omega
  · split
    · rw [e]; omega
    · show ([] : List (Int × List UInt8)).length ≤ _
      simp
set_option maxHeartbeats 1000000 in
theorem format_bad (h : DW s w0 w db d Z) (hp : d.pages < 3) :
    Calls Try.prog 14 #[.pointer (some ⟨db, 0, none⟩)] w fun e w' => e = .returned (.int .i64 2) ∧ Below w.heap.size w w' := by
  have hx := (Blk.new w [.pointer (some ⟨db, 0, none⟩)] 28).cell 0
  have HB0 : Hid (Below w.heap.size w (w.alloc (.cells #[.pointer (some ⟨db, 0, none⟩)] 28))) := (Below.refl _ _).alloc (Nat.le_refl _) _
  have C := hid (h.grow HB0.out).pages
  have hp' : (d.pages : Int) < 3 := by omega
  clear h hp
  go_enter Try.func14, Try.ntmps14
  go_wp2_with (first
    | (go_at_call 39; go_loud (with_reducible refine C.out.mono ?_); rintro e w3 ⟨rfl, hw⟩; subst hw)
    | fail)
  go_ret
  exact ⟨rfl, HB0.out⟩
theorem Dk.fmt_seq (d : Dk) (h : ¬ d.pages < 3) : seqErr (d.wrErr 0 (headPage 0 0)) ((d.wr 0 (headPage 0 0)).wrErr 1 (headPage 1 0)) (((d.wr 0 (headPage 0 0)).wr 1 (headPage 1 0)).syErr) = d.fmtErr ∧
    seqDk (d.wrErr 0 (headPage 0 0)) ((d.wr 0 (headPage 0 0)).wrErr 1 (headPage 1 0)) (d.wr 0 (headPage 0 0)) ((d.wr 0 (headPage 0 0)).wr 1 (headPage 1 0)) ((d.wr 0 (headPage 0 0)).wr 1 (headPage 1 0)).sy = d.fmt := by
  unfold seqErr seqDk Dk.fmtErr Dk.fmt
  rw [if_neg h, if_neg h]
  exact ⟨rfl, rfl⟩
set_option maxHeartbeats 2000000 in
theorem format_ok (h : DW s w0 w db d Z) (hp : ¬ d.pages < 3) (hm : d.pend.length < 999990) :
    Calls Try.prog 14 #[.pointer (some ⟨db, 0, none⟩)] w fun e w' => e = .returned (.int .i64 d.fmtErr) ∧ DW s w0 w' db d.fmt Z ∧ Kept (old s Z) w w' := by
  have hmf : ∀ (fn : Fn) (first cap : Array Value) (w : World), (Instr.makeFunc fn first cap).run Try.prog w = .ok (.func fn first cap) w := fun _ _ _ _ => rfl
  have hx := (Blk.new w [.pointer (some ⟨db, 0, none⟩)] 28).cell 0
  have HB0 : Hid (Below w.heap.size w (w.alloc (.cells #[.pointer (some ⟨db, 0, none⟩)] 28))) := (Below.refl _ _).alloc (Nat.le_refl _) _
  have C := hid (h.grow HB0.out).pages
  have hp' : ¬ (d.pages : Int) < 3 := by omega
  have HSz := hid h
  have HW : Hid (∀ w2 : World, Below w.heap.size w w2 → Blk w2 (w.heap.size + 1) [.func (.func 41) #[] #[.pointer (some ⟨w.heap.size, 0, none⟩)], .func (.func 43) #[] #[.pointer (some ⟨w.heap.size, 0, none⟩)], .func (.func 44) #[.pointer (some ⟨db, 0, none⟩)] #[]] 89 → Blk w2 w.heap.size [.pointer (some ⟨db, 0, none⟩)] 28 →
      Calls Try.prog 40 #[.slice (some ⟨w.heap.size + 1, 0, none⟩) 3 3] w2 fun e w' => e = .returned (.int .i64 d.fmtErr) ∧ DW s w0 w' db d.fmt Z ∧ Kept (old s Z) w w') := fun w2 B2 b2 b1 => by
    have h2 := h.add B2
    have l2 := b2.lt
    have := inturn_fmt w.heap.size (w.heap.size + 1) (d.wrErr 0 (headPage 0 0)) ((d.wr 0 (headPage 0 0)).wrErr 1 (headPage 1 0)) (((d.wr 0 (headPage 0 0)).wr 1 (headPage 1 0)).syErr) (d.wr 0 (headPage 0 0)) ((d.wr 0 (headPage 0 0)).wr 1 (headPage 1 0)) ((d.wr 0 (headPage 0 0)).wr 1 (headPage 1 0)).sy h2 (Or.inr ⟨by omega, by omega⟩) b2
      (fun w' D K => fmt1_any w.heap.size D ((K.blk b1 (Or.inr (Or.inr ⟨Nat.le_refl _, by omega⟩))).cell 0) (by omega))
      (fun w' D K => fmt2_any w.heap.size D ((K.blk b1 (Or.inr (Or.inr ⟨Nat.le_refl _, by omega⟩))).cell 0) (by have := d.pend_wr 0 (headPage 0 0); omega))
      (fun w' D K => D.sync (by have := d.pend_wr 0 (headPage 0 0); have := (d.wr 0 (headPage 0 0)).pend_wr 1 (headPage 1 0); omega))
    rw [(d.fmt_seq hp).1, (d.fmt_seq hp).2] at this
    refine this.mono ?_
    rintro e w' ⟨he, D, K⟩
    refine ⟨he, D.less (fun k z => Or.inl z), (h.kgrow B2).trans (K.mono (fun k o => ?_))⟩
    rcases o with o | o
    · exact Or.inl o
    · exact Or.inr (Or.inl o)
  have b1 := Blk.new w [.pointer (some ⟨db, 0, none⟩)] 28
  have b2 := Blk.new (w.alloc (.cells #[.pointer (some ⟨db, 0, none⟩)] 28)) [.func (.func 41) #[] #[.pointer (some ⟨w.heap.size, 0, none⟩)], .func (.func 43) #[] #[.pointer (some ⟨w.heap.size, 0, none⟩)], .func (.func 44) #[.pointer (some ⟨db, 0, none⟩)] #[]] 89
  rw [show (w.alloc (.cells #[.pointer (some ⟨db, 0, none⟩)] 28)).heap.size = w.heap.size + 1 by simp] at b2
  have HT := hid (HW.out ((w.alloc (.cells #[.pointer (some ⟨db, 0, none⟩)] 28)).alloc (.cells #[.func (.func 41) #[] #[.pointer (some ⟨w.heap.size, 0, none⟩)], .func (.func 43) #[] #[.pointer (some ⟨w.heap.size, 0, none⟩)], .func (.func 44) #[.pointer (some ⟨db, 0, none⟩)] #[]] 89)) (HB0.out.alloc (by simp) _) b2 (b1.alloc _))
  clear h hp b1 b2 HW
  go_enter Try.func14, Try.ntmps14
  go_wp2_with (first
    | (go_at_call 39; go_loud (with_reducible refine C.out.mono ?_); rintro e w3 ⟨rfl, hw⟩; subst hw)
    | (go_at_call 40; go_loud (with_reducible refine HT.out.mono ?_); rintro e w3 ⟨rfl, D3, K3⟩; have HD3 := hid D3; have HK3 := hid K3; clear D3 K3)
    | fail)
  go_ret
  exact ⟨rfl, HD3.out, HK3.out⟩
theorem DW.format (h : DW s w0 w db d Z) (hm : d.pend.length < 999990) :
    Calls Try.prog 14 #[.pointer (some ⟨db, 0, none⟩)] w fun e w' => e = .returned (.int .i64 d.fmtErr) ∧ DW s w0 w' db d.fmt Z ∧ Kept (old s Z) w w' := by
  by_cases hp : d.pages < 3
  · refine (format_bad h hp).mono ?_
    rintro e w' ⟨he, B⟩
    have e1 : d.fmtErr = 2 := by unfold Dk.fmtErr; rw [if_pos hp]
    have e2 : d.fmt = d := by unfold Dk.fmt; rw [if_pos hp]
    rw [e1, e2]
    exact ⟨he, h.grow B, h.kgrow B⟩
  · exact format_ok h hp hm
end Go.Proofs.Ytnecigbncggogaa
