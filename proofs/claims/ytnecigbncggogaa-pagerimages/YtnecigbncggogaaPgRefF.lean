/- What the document's Open does. Condition: fewer than a million writes are pending. -/
import Derived.Test.YtnecigbncggogaaPgRefE
namespace Go.Proofs.Ytnecigbncggogaa
open Go.RowKit
set_option linter.unusedVariables false
set_option maxRecDepth 20000
variable {s : Nat} {w0 w : World} {rb : Nat} {r : Dk} {Z : Nat → Prop}

/-- What the document's Open ends with. -/
def ropEnd (w : World) (rb : Nat) (o : Option (Nat × Nat)) (e : Ending) (w' : World) : Prop :=
  Below w.heap.size w w' ∧ match o with
    | none => e = .returned (.tuple #[.pointer none, .int .i64 10])
    | some x => ∃ qb, w.heap.size ≤ qb ∧ e = .returned (.tuple #[.pointer (some ⟨qb, 0, none⟩), .int .i64 0]) ∧ Rag w' qb rb ⟨x.1, x.2, false⟩
set_option maxHeartbeats 8000000 in
theorem ropen_ok (h : RW s w0 w rb r Z) (hp : ¬ r.pages < 3) (hd : r.down = false) (hm : r.pend.length < 1000000) :
    Calls Try.prog 35 #[.pointer (some ⟨rb, 0, none⟩)] w (ropEnd w rb r.newestHead) := by
  have hpg := h.okk.pages
  have hr : ∀ k : Nat, k < 2 → r.reach (k : Int) = 0 := fun k hk => by unfold Dk.reach; rw [hd, if_neg (by decide), if_neg (by omega)]
  have CPg := hid (fun (w5 : World) (h5 : RW s w0 w5 rb r Z) => h5.pages)
  have CR0 : Hid (∀ (w5 : World), RW s w0 w5 rb r Z → Calls Try.prog 67 #[.pointer (some ⟨rb, 0, none⟩), .int .i64 0] w5 fun e w' => ∃ g c, e = .returned (.tuple #[.slice (some ⟨g, 0, none⟩) 512 c, .int .i64 0]) ∧ Byts w' (some ⟨g, 0, none⟩) (r.has 0) ∧ 512 ≤ c ∧ Below w5.heap.size w5 w') := fun w5 h5 => h5.read 0 (hr 0 (by decide)) hm
  have CR1 : Hid (∀ (w5 : World), RW s w0 w5 rb r Z → Calls Try.prog 67 #[.pointer (some ⟨rb, 0, none⟩), .int .i64 1] w5 fun e w' => ∃ g c, e = .returned (.tuple #[.slice (some ⟨g, 0, none⟩) 512 c, .int .i64 0]) ∧ Byts w' (some ⟨g, 0, none⟩) (r.has 1) ∧ 512 ≤ c ∧ Below w5.heap.size w5 w') := fun w5 h5 => h5.read 1 (hr 1 (by decide)) hm
  have CH0 : Hid (∀ (w5 : World) (g c : Nat), Byts w5 (some ⟨g, 0, none⟩) (r.has 0) → 512 ≤ c → Calls Try.prog 68 #[.slice (some ⟨g, 0, none⟩) 512 c, .int .i64 0, .int .i64 (r.pages : Int)] w5 fun e w' => (∃ x y : Int, e = .returned (.tuple #[.int .i64 x, .int .i64 y, .bool (readHead (r.has 0) 0 r.pages).isSome]) ∧ ∀ z, readHead (r.has 0) 0 r.pages = some z → x = (z.2 : Int) ∧ y = (z.1 : Int)) ∧ Below w5.heap.size w5 w') := fun w5 g c y hc => by
    refine (dochead_any g c (r.has 0) 0 r.pages w5 (h.okk.has _) hc (by omega) hpg (by decide) y).mono ?_
    rintro e w' ⟨⟨v, rfl, x, y, rfl, f⟩, B⟩
    exact ⟨⟨x, y, rfl, f⟩, B⟩
  have CH1 : Hid (∀ (w5 : World) (g c : Nat), Byts w5 (some ⟨g, 0, none⟩) (r.has 1) → 512 ≤ c → Calls Try.prog 68 #[.slice (some ⟨g, 0, none⟩) 512 c, .int .i64 1, .int .i64 (r.pages : Int)] w5 fun e w' => (∃ x y : Int, e = .returned (.tuple #[.int .i64 x, .int .i64 y, .bool (readHead (r.has 1) 1 r.pages).isSome]) ∧ ∀ z, readHead (r.has 1) 1 r.pages = some z → x = (z.2 : Int) ∧ y = (z.1 : Int)) ∧ Below w5.heap.size w5 w') := fun w5 g c y hc => by
    refine (dochead_any g c (r.has 1) 1 r.pages w5 (h.okk.has _) hc (by omega) hpg (by decide) y).mono ?_
    rintro e w' ⟨⟨v, rfl, x, y, rfl, f⟩, B⟩
    exact ⟨⟨x, y, rfl, f⟩, B⟩
  have HH := hid h
  have hp' : ¬ (r.pages : Int) < 3 := by omega
  have HNw : Hid (r.newestHead = newer (readHead (r.has 0) 0 r.pages) (readHead (r.has 1) 1 r.pages)) := rfl
  clear h hp hr hm hd
  generalize readHead (r.has 0) 0 r.pages = o0 at *
  generalize readHead (r.has 1) 1 r.pages = o1 at *
  generalize r.newestHead = o at *
  generalize r.has 0 = b0 at *
  generalize r.has 1 = b1 at *
  cases o0 with
  | none =>
    cases o1 with
    | none =>
      have HNw : Hid (o = none) := HNw
      simp only [Option.isSome] at CH0 CH1
      go_enter Try.func35, Try.ntmps35
      go_wp2_with (first
        | (go_at_call 45; first
            | (with_reducible refine (CPg.out _ HR5.out).mono ?_; rintro e w3 ⟨rfl, hw⟩; subst w3)
            | (with_reducible refine (CPg.out _ HR4.out).mono ?_; rintro e w3 ⟨rfl, hw⟩; subst w3)
            | (with_reducible refine (CPg.out _ HH.out).mono ?_; rintro e w3 ⟨rfl, hw⟩; subst w3))
        | (go_at_call 67; first
            | (with_reducible refine (CR1.out _ HR3.out).mono ?_; rintro e w4 ⟨g4, c4, rfl, Y4, L4, B4⟩; have HY4 := hid Y4; have HL4 := hid L4; have HZ4 := hid (HY3.out.below B4); have HR4 := hid (HR3.out.grow B4); have HB4 := hid (HB3.out.trans (B4.mono HB3.out.size)); clear Y4 L4 B4)
            | (with_reducible refine (CR0.out _ HH.out).mono ?_; rintro e w3 ⟨g3, c3, rfl, Y3, L3, B3⟩; have HY3 := hid Y3; have HL3 := hid L3; have HR3 := hid (HH.out.grow B3); have HB3 := hid B3; clear Y3 L3 B3))
        | (go_at_call 68; first
            | (with_reducible refine (CH1.out _ g4 c4 HY5.out HL4.out).mono ?_; rintro e w6 ⟨⟨x6, y6, rfl, F6⟩, B6⟩; have HR6 := hid (HR5.out.grow B6); have HB6 := hid (HB5.out.trans (B6.mono HB5.out.size)); clear F6 B6)
            | (with_reducible refine (CH0.out _ g3 c3 HZ4.out HL3.out).mono ?_; rintro e w5 ⟨⟨x5, y5, rfl, F5⟩, B5⟩; have HY5 := hid (HY4.out.below B5); have HR5 := hid (HR4.out.grow B5); have HB5 := hid (HB4.out.trans (B5.mono HB4.out.size)); clear F5 B5))
        | fail)
      go_ret2
      unfold ropEnd
      rw [HNw.out]
      exact ⟨HB6.out, rfl⟩
    | some z1 =>
      have HNw : Hid (o = some z1) := HNw
      simp only [Option.isSome] at CH0 CH1
      go_enter Try.func35, Try.ntmps35
      go_wp2_with (first
        | (go_at_call 45; first
            | (with_reducible refine (CPg.out _ HR5.out).mono ?_; rintro e w3 ⟨rfl, hw⟩; subst w3)
            | (with_reducible refine (CPg.out _ HR4.out).mono ?_; rintro e w3 ⟨rfl, hw⟩; subst w3)
            | (with_reducible refine (CPg.out _ HH.out).mono ?_; rintro e w3 ⟨rfl, hw⟩; subst w3))
        | (go_at_call 67; first
            | (with_reducible refine (CR1.out _ HR3.out).mono ?_; rintro e w4 ⟨g4, c4, rfl, Y4, L4, B4⟩; have HY4 := hid Y4; have HL4 := hid L4; have HZ4 := hid (HY3.out.below B4); have HR4 := hid (HR3.out.grow B4); have HB4 := hid (HB3.out.trans (B4.mono HB3.out.size)); clear Y4 L4 B4)
            | (with_reducible refine (CR0.out _ HH.out).mono ?_; rintro e w3 ⟨g3, c3, rfl, Y3, L3, B3⟩; have HY3 := hid Y3; have HL3 := hid L3; have HR3 := hid (HH.out.grow B3); have HB3 := hid B3; clear Y3 L3 B3))
        | (go_at_call 68; first
            | (with_reducible refine (CH1.out _ g4 c4 HY5.out HL4.out).mono ?_; rintro e w6 ⟨⟨x6, y6, rfl, F6⟩, B6⟩; obtain ⟨rfl, rfl⟩ := F6 _ rfl; have HR6 := hid (HR5.out.grow B6); have HB6 := hid (HB5.out.trans (B6.mono HB5.out.size)); clear F6 B6)
            | (with_reducible refine (CH0.out _ g3 c3 HZ4.out HL3.out).mono ?_; rintro e w5 ⟨⟨x5, y5, rfl, F5⟩, B5⟩; have HY5 := hid (HY4.out.below B5); have HR5 := hid (HR4.out.grow B5); have HB5 := hid (HB4.out.trans (B5.mono HB4.out.size)); clear F5 B5))
        | fail)
      have HN := hid (Blk.new w6 (rgcells rb ⟨z1.1, z1.2, false⟩) 54)
      go_ret2
      unfold ropEnd
      rw [HNw.out]
      exact ⟨HB6.out.alloc HB6.out.size _, _, HB6.out.size, rfl, HN.out⟩
  | some z0 =>
    cases o1 with
    | none =>
      have HNw : Hid (o = some z0) := HNw
      simp only [Option.isSome] at CH0 CH1
      go_enter Try.func35, Try.ntmps35
      go_wp2_with (first
        | (go_at_call 45; first
            | (with_reducible refine (CPg.out _ HR5.out).mono ?_; rintro e w3 ⟨rfl, hw⟩; subst w3)
            | (with_reducible refine (CPg.out _ HR4.out).mono ?_; rintro e w3 ⟨rfl, hw⟩; subst w3)
            | (with_reducible refine (CPg.out _ HH.out).mono ?_; rintro e w3 ⟨rfl, hw⟩; subst w3))
        | (go_at_call 67; first
            | (with_reducible refine (CR1.out _ HR3.out).mono ?_; rintro e w4 ⟨g4, c4, rfl, Y4, L4, B4⟩; have HY4 := hid Y4; have HL4 := hid L4; have HZ4 := hid (HY3.out.below B4); have HR4 := hid (HR3.out.grow B4); have HB4 := hid (HB3.out.trans (B4.mono HB3.out.size)); clear Y4 L4 B4)
            | (with_reducible refine (CR0.out _ HH.out).mono ?_; rintro e w3 ⟨g3, c3, rfl, Y3, L3, B3⟩; have HY3 := hid Y3; have HL3 := hid L3; have HR3 := hid (HH.out.grow B3); have HB3 := hid B3; clear Y3 L3 B3))
        | (go_at_call 68; first
            | (with_reducible refine (CH1.out _ g4 c4 HY5.out HL4.out).mono ?_; rintro e w6 ⟨⟨x6, y6, rfl, F6⟩, B6⟩; have HR6 := hid (HR5.out.grow B6); have HB6 := hid (HB5.out.trans (B6.mono HB5.out.size)); clear F6 B6)
            | (with_reducible refine (CH0.out _ g3 c3 HZ4.out HL3.out).mono ?_; rintro e w5 ⟨⟨x5, y5, rfl, F5⟩, B5⟩; obtain ⟨rfl, rfl⟩ := F5 _ rfl; have HY5 := hid (HY4.out.below B5); have HR5 := hid (HR4.out.grow B5); have HB5 := hid (HB4.out.trans (B5.mono HB4.out.size)); clear F5 B5))
        | fail)
      have HN := hid (Blk.new w6 (rgcells rb ⟨z0.1, z0.2, false⟩) 54)
      go_ret2
      unfold ropEnd
      rw [HNw.out]
      exact ⟨HB6.out.alloc HB6.out.size _, _, HB6.out.size, rfl, HN.out⟩
    | some z1 =>
      simp only [Option.isSome] at CH0 CH1
      by_cases hlt : z0.1 < z1.1
      · have HNw : Hid (o = some z1) := by have := HNw.out; simp only [newer] at this; rw [if_pos hlt] at this; exact this
        have hld : decide ((z0.1 : Int) < (z1.1 : Int)) = true := by simp; omega
        go_enter Try.func35, Try.ntmps35
        go_wp2_with (first
          | (go_at_call 45; first
              | (with_reducible refine (CPg.out _ HR5.out).mono ?_; rintro e w3 ⟨rfl, hw⟩; subst w3)
              | (with_reducible refine (CPg.out _ HR4.out).mono ?_; rintro e w3 ⟨rfl, hw⟩; subst w3)
              | (with_reducible refine (CPg.out _ HH.out).mono ?_; rintro e w3 ⟨rfl, hw⟩; subst w3))
          | (go_at_call 67; first
              | (with_reducible refine (CR1.out _ HR3.out).mono ?_; rintro e w4 ⟨g4, c4, rfl, Y4, L4, B4⟩; have HY4 := hid Y4; have HL4 := hid L4; have HZ4 := hid (HY3.out.below B4); have HR4 := hid (HR3.out.grow B4); have HB4 := hid (HB3.out.trans (B4.mono HB3.out.size)); clear Y4 L4 B4)
              | (with_reducible refine (CR0.out _ HH.out).mono ?_; rintro e w3 ⟨g3, c3, rfl, Y3, L3, B3⟩; have HY3 := hid Y3; have HL3 := hid L3; have HR3 := hid (HH.out.grow B3); have HB3 := hid B3; clear Y3 L3 B3))
          | (go_at_call 68; first
              | (with_reducible refine (CH1.out _ g4 c4 HY5.out HL4.out).mono ?_; rintro e w6 ⟨⟨x6, y6, rfl, F6⟩, B6⟩; obtain ⟨rfl, rfl⟩ := F6 _ rfl; have HR6 := hid (HR5.out.grow B6); have HB6 := hid (HB5.out.trans (B6.mono HB5.out.size)); clear F6 B6)
              | (with_reducible refine (CH0.out _ g3 c3 HZ4.out HL3.out).mono ?_; rintro e w5 ⟨⟨x5, y5, rfl, F5⟩, B5⟩; obtain ⟨rfl, rfl⟩ := F5 _ rfl; have HY5 := hid (HY4.out.below B5); have HR5 := hid (HR4.out.grow B5); have HB5 := hid (HB4.out.trans (B5.mono HB4.out.size)); clear F5 B5))
          | fail)
        have HN := hid (Blk.new w6 (rgcells rb ⟨z1.1, z1.2, false⟩) 54)
        go_ret2
        unfold ropEnd
        rw [HNw.out]
        exact ⟨HB6.out.alloc HB6.out.size _, _, HB6.out.size, rfl, HN.out⟩
      · have HNw : Hid (o = some z0) := by have := HNw.out; simp only [newer] at this; rw [if_neg hlt] at this; exact this
        have hld : decide ((z0.1 : Int) < (z1.1 : Int)) = false := by simp; omega
        have hlp : ¬ ((z0.1 : Int) < (z1.1 : Int)) := by omega
        go_enter Try.func35, Try.ntmps35
        go_wp2_with (first
          | (go_at_call 45; first
              | (with_reducible refine (CPg.out _ HR5.out).mono ?_; rintro e w3 ⟨rfl, hw⟩; subst w3)
              | (with_reducible refine (CPg.out _ HR4.out).mono ?_; rintro e w3 ⟨rfl, hw⟩; subst w3)
              | (with_reducible refine (CPg.out _ HH.out).mono ?_; rintro e w3 ⟨rfl, hw⟩; subst w3))
          | (go_at_call 67; first
              | (with_reducible refine (CR1.out _ HR3.out).mono ?_; rintro e w4 ⟨g4, c4, rfl, Y4, L4, B4⟩; have HY4 := hid Y4; have HL4 := hid L4; have HZ4 := hid (HY3.out.below B4); have HR4 := hid (HR3.out.grow B4); have HB4 := hid (HB3.out.trans (B4.mono HB3.out.size)); clear Y4 L4 B4)
              | (with_reducible refine (CR0.out _ HH.out).mono ?_; rintro e w3 ⟨g3, c3, rfl, Y3, L3, B3⟩; have HY3 := hid Y3; have HL3 := hid L3; have HR3 := hid (HH.out.grow B3); have HB3 := hid B3; clear Y3 L3 B3))
          | (go_at_call 68; first
              | (with_reducible refine (CH1.out _ g4 c4 HY5.out HL4.out).mono ?_; rintro e w6 ⟨⟨x6, y6, rfl, F6⟩, B6⟩; obtain ⟨rfl, rfl⟩ := F6 _ rfl; have HR6 := hid (HR5.out.grow B6); have HB6 := hid (HB5.out.trans (B6.mono HB5.out.size)); clear F6 B6)
              | (with_reducible refine (CH0.out _ g3 c3 HZ4.out HL3.out).mono ?_; rintro e w5 ⟨⟨x5, y5, rfl, F5⟩, B5⟩; obtain ⟨rfl, rfl⟩ := F5 _ rfl; have HY5 := hid (HY4.out.below B5); have HR5 := hid (HR4.out.grow B5); have HB5 := hid (HB4.out.trans (B5.mono HB4.out.size)); clear F5 B5))
          | fail)
        have HN := hid (Blk.new w6 (rgcells rb ⟨z0.1, z0.2, false⟩) 54)
        go_ret2
        unfold ropEnd
        rw [HNw.out]
        exact ⟨HB6.out.alloc HB6.out.size _, _, HB6.out.size, rfl, HN.out⟩
theorem RW.open_ (h : RW s w0 w rb r Z) (hm : r.pend.length < 1000000) :
    Calls Try.prog 35 #[.pointer (some ⟨rb, 0, none⟩)] w fun e w' => Below w.heap.size w w' ∧ (r.openErr ≠ 0 → e = .returned (.tuple #[.pointer none, .int .i64 r.openErr])) ∧ (r.openErr = 0 → ∃ qb x, r.newestHead = some x ∧ w.heap.size ≤ qb ∧ e = .returned (.tuple #[.pointer (some ⟨qb, 0, none⟩), .int .i64 0]) ∧ Rag w' qb rb ⟨x.1, x.2, false⟩) := by
  unfold Dk.openErr
  by_cases hp : r.pages < 3
  · rw [if_pos hp]
    refine (ropen_few h hp).mono ?_
    rintro e w' ⟨he, rfl⟩
    exact ⟨Below.refl _ _, fun _ => he, fun q => by cases q⟩
  · rw [if_neg hp]
    cases hd : r.down
    · rw [if_neg (by decide)]
      refine (ropen_ok h hp hd hm).mono ?_
      rintro e w' ⟨B, he⟩
      cases hN : r.newestHead with
      | none =>
        rw [hN] at he
        rw [if_pos rfl]
        exact ⟨B, fun _ => he, fun q => by cases q⟩
      | some x =>
        rw [hN] at he
        rw [if_neg (by simp)]
        obtain ⟨pb, h1, h2, h3⟩ := he
        exact ⟨B, fun q => absurd rfl q, fun _ => ⟨pb, x, rfl, h1, h2, h3⟩⟩
    · rw [if_pos rfl]
      refine (ropen_down h hp hd).mono ?_
      rintro e w' ⟨he, rfl⟩
      exact ⟨Below.refl _ _, fun _ => he, fun q => by cases q⟩
end Go.Proofs.Ytnecigbncggogaa
