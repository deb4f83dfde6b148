/- What PagerWhole does: whatever numbers, bytes and bools it is called with, it answers true and leaves memory as it was. No conditions. -/
import Derived.Test.YtnecigbncggogaaPRisesWalk
import Derived.Test.YtnecigbncggogaaPgWhole
namespace Go.Proofs.Ytnecigbncggogaa
open Go.RowKit
set_option linter.unusedVariables false
set_option maxRecDepth 20000

theorem Inv.of_fr {d : Dk} {H : Int → List UInt8} {g r : Nat} {S : List UInt8} (F : Fr d 9 H 0) (hh : Heads H 9 g r) (hg : g < 190) (h3 : H 3 = S) : Inv d g r S := by
  have hp : d.pend = [] := List.eq_nil_of_length_eq_zero (Nat.le_zero.1 F.pend)
  have hl : ∀ m, d.last m = H m := fun m => by
    rw [← F.has]
    unfold Dk.has
    rw [hp]
    rfl
  obtain ⟨h1, r', h2, k1, k2, hg1⟩ := hh
  refine ⟨F.free, F.ok, F.pages, hp, hg1, k1, (hl _).trans h1, ?_, ?_, (hl _).trans h3⟩
  · rw [hl, h2]
    exact At.head hg1 (by omega) (rootOk_small k2)
  · rw [hl, h2]
    exact NH.head hg1 (by omega) (rootOk_small k2)
/-- The disk of the law, its pager, the page that was committed first. -/
structure WW (s : Nat) (w0 w : World) (db pb fb : Nat) (d : Dk) (k : Pk) (F : List UInt8) (Z : Nat → Prop) : Prop where
  dw : DW s w0 w db d Z
  pag : Pag w pb db k
  zp : Z pb
  sp : s ≤ pb
  first : Blk w fb (bcells F) 5
  zf : Z fb
  nf : fb ≠ pb
variable {s : Nat} {w0 w : World} {db pb fb : Nat} {d : Dk} {k : Pk} {F : List UInt8} {Z : Nat → Prop}
theorem WW.grow (h : WW s w0 w db pb fb d k F Z) {w' : World} (B : Below w.heap.size w w') : WW s w0 w' db pb fb d k F Z := ⟨h.dw.grow B, h.pag.below B, h.zp, h.sp, h.first.below B h.first.lt, h.zf, h.nf⟩
theorem WW.add (h : WW s w0 w db pb fb d k F Z) {w' : World} (B : Below w.heap.size w w') : WW s w0 w' db pb fb d k F (fun j => Z j ∨ (w.heap.size ≤ j ∧ j < w'.heap.size)) := ⟨h.dw.add B, h.pag.below B, Or.inl h.zp, h.sp, h.first.below B h.first.lt, Or.inl h.zf, h.nf⟩
theorem WW.arm (h : WW s w0 w db pb fb d k F Z) (a : Int) (ha : a ≤ 9223372036854775807) :
    Calls Try.prog 27 #[.pointer (some ⟨db, 0, none⟩), .int .i64 a] w fun e w' => e = .returned (.tuple #[]) ∧ WW s w0 w' db pb fb (d.armed a) k F Z ∧ Kept (old s Z) w w' := by
  refine (h.dw.arms a ha).mono ?_
  rintro e w' ⟨he, D, K⟩
  exact ⟨he, ⟨D, h.pag.kept K (Or.inr h.zp), h.zp, h.sp, K.blk h.first (Or.inr h.zf), h.zf, h.nf⟩, K⟩
theorem WW.write (h : WW s w0 w db pb fb d k F Z) (n : Int) (g : Nat) (b : List UInt8) (hb : b.length = 508) (hy : Blk w g (bcells b) 5) (hm : d.pend.length < 1000) :
    Calls Try.prog 25 #[.pointer (some ⟨pb, 0, none⟩), .int .i64 n, .slice (some ⟨g, 0, none⟩) 508 508] w fun e w' => e = .returned (.int .i64 (d.pwErr n b)) ∧ WW s w0 w' db pb fb (d.pw n b) k F Z ∧ Kept (old s Z) w w' := by
  have q := h.dw.pwrite pb n (some ⟨g, 0, none⟩) 508 b k h.pag h.zp hy.byts' (by omega)
  rw [hb] at q
  refine q.mono ?_
  rintro e w' ⟨he, D, K⟩
  exact ⟨he, ⟨D, h.pag.kept K (Or.inr h.zp), h.zp, h.sp, K.blk h.first (Or.inr h.zf), h.zf, h.nf⟩, K⟩
theorem WW.commit (h : WW s w0 w db pb fb d k F Z) (n : Nat) (hn : rootOk n 9 = true) (hp : d.pages = 9) (hf : k.failed = false) (hg : k.gen < 200) (hm : d.pend.length < 1000) :
    Calls Try.prog 26 #[.pointer (some ⟨pb, 0, none⟩), .int .i64 (n : Int)] w fun e w' => e = .returned (.int .i64 (d.cmErr (k.gen + 1) n)) ∧ (∃ k', WW s w0 w' db pb fb (d.cm (k.gen + 1) n) k' F Z) ∧ Kept (fun j => old s Z j ∧ j ≠ pb) w w' := by
  have q := h.dw.commit pb (n : Int) k h.pag h.zp h.sp (by omega) (by rw [hp]; decide) (by omega)
  have r : d.rootOk (n : Int) = true := by
    unfold Dk.rootOk Dk.rangeErr
    rw [hp, ← hn]
    exact rootOk_int n 9
  unfold Pk.cmErr Pk.cmDk at q
  simp only [hf, r, Int.toNat_natCast, Bool.false_eq_true, Bool.true_eq_false, if_false] at q
  refine q.mono ?_
  rintro e w' ⟨he, D, P, K⟩
  exact ⟨he, ⟨_, D, P, h.zp, h.sp, K.blk h.first ⟨Or.inr h.zf, h.nf⟩, h.zf, h.nf⟩, K⟩
theorem WW.mend (h : WW s w0 w db pb fb d k F Z) (kp : Option Addr) (keep : List Bool) (kc : Nat) (tn cut : Int) (hm : d.pend.length < 1000) (hk : Bits w kp keep) (hkl : keep ≠ [] → ∀ b off, kp = some ⟨b, off, none⟩ → b < s) :
    Calls Try.prog 28 #[.pointer (some ⟨db, 0, none⟩), .slice kp keep.length kc, .int .i64 tn, .int .i64 cut] w fun e w' => e = .returned (.tuple #[]) ∧ WW s w0 w' db pb fb (d.mended keep tn cut) k F Z ∧ Kept (old s Z) w w' := by
  refine (h.dw.mend kp keep kc tn cut (by omega) hk (fun a b c e => Or.inl (hkl a b c e))).mono ?_
  rintro e w' ⟨he, D, K⟩
  exact ⟨he, ⟨D, h.pag.kept K (Or.inr h.zp), h.zp, h.sp, K.blk h.first (Or.inr h.zf), h.zf, h.nf⟩, K⟩
theorem WW.open_ (h : WW s w0 w db pb fb d k F Z) {g r : Nat} {S : List UInt8} (hi : Inv d g r S) (hg : g < 200) :
    Calls Try.prog 29 #[.pointer (some ⟨db, 0, none⟩)] w fun e w' => ∃ qb, e = .returned (.tuple #[.pointer (some ⟨qb, 0, none⟩), .int .i64 0]) ∧ WW s w0 w' db qb fb d ⟨g, r, false⟩ F (fun j => Z j ∨ (w.heap.size ≤ j ∧ j < w'.heap.size)) ∧ Below w.heap.size w w' := by
  obtain ⟨e1, e2⟩ := hi.newest hg
  refine h.dw.open_.mono ?_
  rintro e w' ⟨B, _, h2⟩
  obtain ⟨qb, x, hx, hq, he, hp⟩ := h2 e1
  rw [e2] at hx
  simp only [Option.some.injEq] at hx
  subst hx
  have hs := h.dw.size
  have hl := h.dw.lt fb h.zf
  exact ⟨qb, he, ⟨h.dw.add B, hp, Or.inr ⟨hq, Blk.lt hp⟩, by omega, h.first.below B h.first.lt, Or.inl h.zf, by omega⟩, B⟩
theorem WW.read (h : WW s w0 w db pb fb d k F Z) {g r : Nat} {S : List UInt8} (hi : Inv d g r S) {n : Int} {b : List UInt8} (h0 : 2 ≤ n) (h1 : n < 9) (hb : b.length = 508) (hh : d.has n = sealed b) :
    Calls Try.prog 30 #[.pointer (some ⟨pb, 0, none⟩), .int .i64 n] w fun e w' => Below w.heap.size w w' ∧ ∃ q, e = .returned (.tuple #[.slice (some ⟨q, 0, none⟩) 508 508, .int .i64 0]) ∧ Byts w' (some ⟨q, 0, none⟩) b := by
  have hr : d.rangeErr n = true := by unfold Dk.rangeErr; rw [hi.pages]; simp; omega
  have e1 : d.rdErr n = 0 := by
    unfold Dk.rdErr
    simp only [hr, hi.free.down, hh, right_sealed hb, Bool.true_eq_false, Bool.false_eq_true, if_false]
  refine (h.dw.pread pb n k h.pag).mono ?_
  rintro e w' ⟨B, _, h2⟩
  obtain ⟨q, _, he, hy⟩ := h2 e1
  rw [hh, sealed_take hb] at hy
  exact ⟨B, q, he, hy⟩
theorem conv508 {w : World} {g : Nat} {l : List UInt8} (hl : l.length = 508) (h : Byts w (some ⟨g, 0, none⟩) l) : (convert 22 9 (.slice (some ⟨g, 0, none⟩) 508 508)).run Try.prog w = .ok (.string ⟨l.toArray⟩) w := by
  have := conv_byts 508 h
  rwa [hl] at this
theorem pend_cm (d : Dk) (g r : Nat) : (d.cm g r).pend.length ≤ d.pend.length + 1 := by
  unfold Dk.cm
  have h1 := d.pend_sy
  have h2 := d.sy.pend_wr ((g % 2 : Nat) : Int) (headPage g r)
  have h3 := (d.sy.wr ((g % 2 : Nat) : Int) (headPage g r)).pend_sy
  split
  · omega
  · split <;> omega
theorem pend_pw (d : Dk) (n : Int) (b : List UInt8) : (d.pw n b).pend.length ≤ d.pend.length + 1 := by
  unfold Dk.pw
  have h2 := d.pend_wr n (sealed b)
  split
  · omega
  · split <;> omega
set_option maxHeartbeats 16000000 in
theorem pwhole_walk (roots : List Int) (load : List UInt8) (at_ : Int) (keep : List Bool) (tn cut : Int) (rp lp kp : Option Addr) (rc lc kc : Nat) (w : World) (hR : Ints w rp roots) (hLo : Byts w lp load) (hK : Bits w kp keep) (hrl : roots.length ≤ maxLen) :
    Calls Try.prog 5 #[.slice rp roots.length rc, .slice lp load.length lc, .int .i64 at_, .slice kp keep.length kc, .int .i64 tn, .int .i64 cut] w fun e w' => e = .returned (.bool true) ∧ Below w.heap.size w w' := by
  have C1 := hid (pworks_any w)
  have C2 : Hid (∀ w1 : World, Calls Try.prog 23 #[.int .i64 9] w1 fun e w' => ∃ db pb Z, e = .returned (.tuple #[.pointer (some ⟨db, 0, none⟩), .pointer (some ⟨pb, 0, none⟩)]) ∧ FW w1.heap.size w1 w' db pb 9 H0 0 ⟨1, 0, false⟩ Z) := fun w1 => fresh_any w1 9 (by decide) (by decide)
  have C3 : Hid (∀ w2 : World, Below w.heap.size w w2 → Calls Try.prog 24 #[.agg #[.int .i64 0, .int .i64 0, .slice lp load.length lc, .slice none 0 0, .int .i64 0, .int .i64 0]] w2 fun e w' => ∃ g, e = .returned (.slice (some ⟨g, 0, none⟩) 508 508) ∧ Blk w' g (bcells (loadM load)) 5 ∧ Below w2.heap.size w2 w' ∧ w2.heap.size ≤ g ∧ g < w'.heap.size) := fun w2 B => load_any 0 0 0 0 lp load lc (.slice none 0 0) w2 (hLo.below B)
  have HFl := hid (loadM_len load)
  have HRt := hid hR
  have HKp := hid hK
  have HKl := hid hK.lt
  generalize loadM load = F at *
  have C4 : Hid (∀ (w1 w3 : World) (db pb g : Nat) (Z : Nat → Prop), FW w1.heap.size w1 w3 db pb 9 H0 0 ⟨1, 0, false⟩ Z → Blk w3 g (bcells F) 5 → Calls Try.prog 25 #[.pointer (some ⟨pb, 0, none⟩), .int .i64 3, .slice (some ⟨g, 0, none⟩) 508 508] w3 fun e w' => e = .returned (.int .i64 0) ∧ FW w1.heap.size w1 w' db pb 9 (putP H0 3 (sealed F)) 1 ⟨1, 0, false⟩ Z ∧ Kept (old w1.heap.size Z) w3 w') := fun w1 w3 db pb g Z h b => h.write (some ⟨g, 0, none⟩) F 508 (by decide) (by decide) HFl.out b.byts' (by decide)
  have C5 : Hid (∀ (w1 w3 : World) (db pb : Nat) (Z : Nat → Prop), FW w1.heap.size w1 w3 db pb 9 (putP H0 3 (sealed F)) 1 ⟨1, 0, false⟩ Z → Calls Try.prog 26 #[.pointer (some ⟨pb, 0, none⟩), .int .i64 3] w3 fun e w' => e = .returned (.int .i64 0) ∧ FW w1.heap.size w1 w' db pb 9 (putP (putP H0 3 (sealed F)) 0 (headPage 2 3)) 0 ⟨2, 3, false⟩ Z ∧ Kept (fun j => old w1.heap.size Z j ∧ j ≠ pb) w3 w') := fun w1 w3 db pb Z h => h.commit 3 (by decide) (by decide) rfl (show (1 : Nat) < _ by decide) (by decide)
  have HHd : Hid (Heads (putP (putP H0 3 (sealed F)) 0 (headPage 2 3)) 9 2 3) := heads_next (n := 3) (heads_other (heads_zero 9) (n := 3) (by decide) (sealed F)) (by decide)
  have CR : Hid (∀ (w3 : World) (db qb g r : Nat), Pag w3 qb db ⟨g, r, false⟩ → Calls Try.prog 20 #[.pointer (some ⟨qb, 0, none⟩)] w3 fun e w' => e = .returned (.tuple #[.int .i64 (r : Int), .int .i64 (g : Int)]) ∧ Below w3.heap.size w3 w') := fun w3 db qb g r h => proot_any qb ⟨g, r, false⟩ h
  have CR2 : Hid (∀ (w3 : World) (db qb : Nat), Pag w3 qb db ⟨2, 3, false⟩ → Calls Try.prog 20 #[.pointer (some ⟨qb, 0, none⟩)] w3 fun e w' => e = .returned (.tuple #[.int .i64 3, .int .i64 2]) ∧ Below w3.heap.size w3 w') := fun w3 db qb h => proot_any qb ⟨2, 3, false⟩ h
  clear hR hLo hK
  go_enter Try.func5, Try.ntmps5
  go_wp2_with (first
    | (go_at_call 22; go_loud (with_reducible refine C1.out.mono ?_); rintro e w1 ⟨rfl, B1⟩; have HB1 := hid B1; clear B1)
    | (go_at_call 23; go_loud (with_reducible refine (C2.out _).mono ?_); rintro e w2 ⟨db, pb, Z, rfl, D2⟩; have HD2 := hid D2; have HBw := hid (HB1.out.trans (D2.bel.mono HB1.out.size)); clear D2)
    | (go_at_call 24; go_loud (with_reducible refine (C3.out _ HBw.out).mono ?_); rintro e w3 ⟨fb, rfl, B3, L3, G3, G4⟩; have HB3 := hid B3; have HD3 := hid (HD2.out.add L3); have HZf := hid (show old w1.heap.size (fun j => Z j ∨ (w2.heap.size ≤ j ∧ j < w3.heap.size)) fb from Or.inr (Or.inr ⟨G3, G4⟩)); have HZg := hid (show Z fb ∨ (w2.heap.size ≤ fb ∧ fb < w3.heap.size) from Or.inr ⟨G3, G4⟩); have HNf := hid (show fb ≠ pb from fun e => by have := HD2.out.lt pb HD2.out.z; omega); clear B3 L3 G3 G4)
    | (go_at_call 25; go_loud (with_reducible refine (C4.out w1 _ db pb fb _ HD3.out HB3.out).mono ?_); rintro e w4 ⟨rfl, D4, K4⟩; have HD4 := hid D4; have HB4 := hid (K4.blk HB3.out HZf.out); clear D4 K4)
    | (go_at_call 26; go_loud (with_reducible refine (C5.out w1 _ db pb _ HD4.out).mono ?_); rintro e w5 ⟨rfl, D5, K5⟩; have HD5 := hid D5; have HB5 := hid (K5.blk HB4.out ⟨HZf.out, HNf.out⟩); clear D5 K5)
    | (go_at_call 20; go_loud (with_reducible refine (CR2.out _ db pb HD5.out.pag).mono ?_); rintro e w6 ⟨rfl, B6⟩; have HD6 := hid (HD5.out.grow B6); have HB6 := hid (HB5.out.below B6 HB5.out.lt); clear B6)
    | fail)
  clear C1 C2 C3 C4 C5 CR2
  go_loopw [14, 16, 17, 18] (fun pv rv gv i wr => ∃ (k pb r g : Nat) (d : Dk) (Z : Nat → Prop), k ≤ roots.length ∧ k ≤ 8 ∧ i = .int .i64 (k : Int) ∧ pv = .pointer (some ⟨pb, 0, none⟩) ∧ rv = .int .i64 (r : Int) ∧ gv = .int .i64 (g : Int) ∧ g ≤ k + 2 ∧ WW w1.heap.size w1 wr db pb fb d ⟨g, r, false⟩ F Z ∧ Inv d g r (sealed F)) (fun _ _ _ i _ => 8 - (RowKit.intOf i).toNat)
  case atStart =>
    obtain ⟨d, D, Fr⟩ := HD6.out.ex
    exact ⟨0, pb, 3, 2, d, _, Nat.zero_le _, by decide, rfl, rfl, rfl, rfl, by decide, ⟨D, HD6.out.pag, HD6.out.z, HD6.out.hs, HB6.out, HZg.out, HNf.out⟩, Inv.of_fr Fr HHd.out (by decide) rfl⟩
  case round =>
    clear HD2 HD3 HD4 HD5 HD6 HB3 HB4 HB5 HB6 HZf HZg HNf HHd HBw
    obtain ⟨k, pc, r, g, d, Y, hk, hk2, rfl, rfl, rfl, rfl, hgk, U, hI⟩ := hrel
    have HU := hid U
    have HI := hid hI
    by_cases hx1 : k < roots.length
    · by_cases hx2 : k < 8
      · have hBw : Below w.heap.size w wr := HB1.out.trans (U.dw.bel.mono HB1.out.size)
        obtain ⟨gr, offr, rfl, hc⟩ := (HRt.out.below hBw).at hx1
        obtain ⟨q, hq⟩ : ∃ q, wrap64 ((IntKind.u64.wrap roots[k]).tmod 7) = q := ⟨_, rfl⟩
        have hqb := umod_bd roots[k] 7 (by omega) (by omega)
        rw [hq] at hqb
        obtain ⟨hq0, hq1⟩ := hqb
        obtain ⟨qn, rfl⟩ : ∃ qn : Nat, q = (qn : Int) := ⟨q.toNat, by omega⟩
        obtain ⟨a, ha⟩ : ∃ a, wrap64 ((IntKind.u64.wrap at_).tmod 7) = a := ⟨_, rfl⟩
        have hab := umod_bd at_ 7 (by omega) (by omega)
        rw [ha] at hab
        obtain ⟨ha0, ha1⟩ := hab
        obtain ⟨an, rfl⟩ : ∃ an : Nat, a = (an : Int) := ⟨a.toNat, by omega⟩
        generalize roots[k] = ln at *
        have hx1' : (k : Int) < (roots.length : Int) := by omega
        have hx2' : (k : Int) < 8 := by omega
        have hku : IntKind.u8.wrap (k : Int) = (k : Int) := by
          have e : IntKind.u8.wrap (k : Int) = (k : Int) % 256 := by simp [IntKind.wrap, IntKind.bits, IntKind.signed]
          rw [e]; omega
        have CL : Hid (Calls Try.prog 24 #[.agg #[.int .i64 0, .int .i64 0, .slice (some ⟨wr.heap.size, 0, none⟩) 2 2, .slice none 0 0, .int .i64 0, .int .i64 0]] (wr.alloc (.cells #[.int .u8 (k : Int), .int .u8 7] 5)) fun e w' => ∃ gb, e = .returned (.slice (some ⟨gb, 0, none⟩) 508 508) ∧ Blk w' gb (bcells (loadM [UInt8.ofNat k, 7])) 5 ∧ Below wr.heap.size wr w' ∧ wr.heap.size ≤ gb ∧ gb < w'.heap.size) := by
          have B : Below wr.heap.size wr (wr.alloc (.cells #[.int .u8 (k : Int), .int .u8 7] 5)) := (Below.refl _ _).alloc (Nat.le_refl _) _
          have q := load_any 0 0 0 0 (some ⟨wr.heap.size, 0, none⟩) [UInt8.ofNat k, 7] 2 (.slice none 0 0) (wr.alloc (.cells #[.int .u8 (k : Int), .int .u8 7] 5)) (Or.inr ⟨_, _, rfl, fun i hi => by
            have hi' : i < 2 := hi
            have e0 := (Blk.new wr [.int .u8 (k : Int), .int .u8 7] 5).cell i
            rw [Nat.zero_add]
            refine e0.trans ?_
            have : i = 0 ∨ i = 1 := by omega
            rcases this with rfl | rfl
            · show some (Value.int .u8 (k : Int)) = some (.int .u8 ((UInt8.ofNat k).toNat : Int))
              rw [UInt8.toNat_ofNat', Nat.mod_eq_of_lt (by omega)]
            · rfl⟩)
          refine q.mono ?_
          rintro e w' ⟨gb, he, b, L, h1, h2⟩
          have hs := B.size
          exact ⟨gb, he, b, B.trans (L.mono hs), by omega, h2⟩
        have HBl := hid (loadM_len [UInt8.ofNat k, 7])
        generalize loadM [UInt8.ofNat k, 7] = bl at *
        have HR3 : Hid (∀ (w5 : World) (d5 : Dk) (qb g5 r5 : Nat) (Y5 : Nat → Prop), WW w1.heap.size w1 w5 db qb fb d5 ⟨g5, r5, false⟩ F Y5 → Inv d5 g5 r5 (sealed F) → Calls Try.prog 30 #[.pointer (some ⟨qb, 0, none⟩), .int .i64 3] w5 fun e w' => Below w5.heap.size w5 w' ∧ ∃ q, e = .returned (.tuple #[.slice (some ⟨q, 0, none⟩) 508 508, .int .i64 0]) ∧ Byts w' (some ⟨q, 0, none⟩) F) := fun w5 d5 qb g5 r5 Y5 h i => h.read i (n := 3) (by decide) (by decide) HFl.out ((i.has 3).trans i.page)
        have HBK : Hid (∀ w5 : World, Below w1.heap.size w1 w5 → Bits w5 kp keep) := fun w5 B5 => HKp.out.below (HB1.out.trans (B5.mono HB1.out.size))
        have HKs : Hid (keep ≠ [] → ∀ b off, kp = some ⟨b, off, none⟩ → b < w1.heap.size) := fun h b off e => Nat.lt_of_lt_of_le (HKl.out h b off e) HB1.out.size
        have har : ((an : Int) + (k : Int) % 3) ≤ 9223372036854775807 := by omega
        clear U hI hBw
        by_cases hq1n : qn = 1
        · subst hq1n
          have HPn1 : Hid ((d.armed ((an : Int) + (k : Int) % 3)).pend.length < 900) := by show _ < _; have := HI.out.pend; show d.pend.length < 900; rw [this]; decide
          have CC : Hid (∀ (w5 : World) (Y5 : Nat → Prop), WW w1.heap.size w1 w5 db pc fb (d.armed ((an : Int) + (k : Int) % 3)) ⟨g, r, false⟩ F Y5 → Calls Try.prog 26 #[.pointer (some ⟨pc, 0, none⟩), .int .i64 0] w5 fun e w' => e = .returned (.int .i64 ((d.armed ((an : Int) + (k : Int) % 3)).cmErr (g + 1) 0)) ∧ (∃ k', WW w1.heap.size w1 w' db pc fb ((d.armed ((an : Int) + (k : Int) % 3)).cm (g + 1) 0) k' F Y5) ∧ Kept (fun j => old w1.heap.size Y5 j ∧ j ≠ pc) w5 w') := fun w5 Y5 h => h.commit 0 (rootOk_zero 9) HI.out.pages rfl (show g < 200 by omega) (Nat.lt_trans HPn1.out (by decide))
          have CD : Hid (∀ (w5 : World) (k5 : Pk) (Y5 : Nat → Prop), WW w1.heap.size w1 w5 db pc fb ((d.armed ((an : Int) + (k : Int) % 3)).cm (g + 1) 0) k5 F Y5 → Calls Try.prog 17 #[.pointer (some ⟨db, 0, none⟩)] w5 fun e w' => e = .returned (.bool ((d.armed ((an : Int) + (k : Int) % 3)).cm (g + 1) 0).down) ∧ w' = w5) := fun w5 k5 Y5 h => h.dw.downs
          have HPn : Hid (((d.armed ((an : Int) + (k : Int) % 3)).cm (g + 1) 0).pend.length < 1000) := by show _ < _; have := pend_cm (d.armed ((an : Int) + (k : Int) % 3)) (g + 1) 0; have := HPn1.out; omega
          rcases whole_none HI.out (by omega) ((an : Int) + (k : Int) % 3) har keep tn cut with ⟨e, o, q | q⟩ | ⟨e, q⟩
          · skip
            have HJ := hid q
            rw [e] at CC
            rw [o] at CD
            clear e o q
            have hg' : g < 200 := by omega
            cases hrn : ((r : Int) == 0)
            all_goals as_aux_lemma => (
              have hnr : ((0 : Int) == (r : Int)) = _ := (Bool.beq_comm ..).trans hrn
              go_wp2_with (first
                | (go_at_call 24; go_loud (with_reducible refine CL.out.mono ?_); rintro e w7 ⟨gb, rfl, B7, L7, G7, G8⟩; have HB7 := hid B7; have HU7 := hid (HU.out.add L7); have HZb := hid (show Y gb ∨ (wr.heap.size ≤ gb ∧ gb < w7.heap.size) from Or.inr ⟨G7, G8⟩); have HNb := hid (show gb ≠ pc from fun e => by have := HU.out.dw.lt pc HU.out.zp; omega); clear B7 L7 G7 G8)
                | (go_at_call 27; go_loud (with_reducible refine (HU7.out.arm _ har).mono ?_); rintro e w8 ⟨rfl, U8, K8⟩; have HU8 := hid U8; have HB8 := hid (K8.blk HB7.out (Or.inr HZb.out)); clear U8 K8)
                | (go_at_call 26; go_loud (with_reducible refine (CC.out _ _ HU8.out).mono ?_); rintro e w10 ⟨rfl, ⟨k10, U10⟩, K10⟩; have HU10 := hid U10; have HB10 := hid (K10.blk HB8.out ⟨Or.inr HZb.out, HNb.out⟩); clear U10 K10)
                | (go_at_call 17; go_loud (with_reducible refine (CD.out _ _ _ HU10.out).mono ?_); rintro e w11 ⟨rfl, hw⟩; subst w11)
                | (go_at_call 28; go_loud (with_reducible refine (HU10.out.mend kp keep kc tn cut HPn.out (HBK.out _ HU10.out.dw.bel) HKs.out).mono ?_); rintro e w12 ⟨rfl, U12, K12⟩; have HU12 := hid U12; have HB12 := hid (K12.blk HB10.out (Or.inr HZb.out)); clear U12 K12)
                | (go_at_call 29; go_loud (with_reducible refine (HU12.out.open_ HJ.out hg').mono ?_); rintro e w13 ⟨qb, rfl, U13, B13⟩; have HU13 := hid U13; have HB13 := hid (HB12.out.below B13 HB12.out.lt); clear U13 B13)
                | (go_at_call 20; go_loud (with_reducible refine (CR.out _ db qb _ _ HU13.out.pag).mono ?_); rintro e w14 ⟨rfl, B14⟩; have HU14 := hid (HU13.out.grow B14); have HB14 := hid (HB13.out.below B14 HB13.out.lt); clear B14)
                | (go_at_call 30; (with_reducible refine (HR3.out _ _ qb _ _ _ HU14.out HJ.out).mono ?_; rintro e w15 ⟨B15, q15, rfl, Y15⟩; have HU15 := hid (HU14.out.grow B15); have HB15 := hid (HB14.out.below B15 HB14.out.lt); have v15 := conv508 HFl.out Y15; have v16 := conv508 HFl.out HU15.out.first.byts'; clear B15 Y15))
                | fail)
              go_roundw
              case rel => exact ⟨k + 1, qb, r, g, _, _, hx1, hx2, rfl, rfl, rfl, rfl, by omega, HU15.out, HJ.out⟩
              case measure => simp [RowKit.intOf]; omega)
          · skip
            have HJ := hid q
            rw [e] at CC
            rw [o] at CD
            clear e o q
            have hg' : (g + 1) < 200 := by omega
            cases hrn : ((r : Int) == 0)
            all_goals as_aux_lemma => (
              have hnr : ((0 : Int) == (r : Int)) = _ := (Bool.beq_comm ..).trans hrn
              go_wp2_with (first
                | (go_at_call 24; go_loud (with_reducible refine CL.out.mono ?_); rintro e w7 ⟨gb, rfl, B7, L7, G7, G8⟩; have HB7 := hid B7; have HU7 := hid (HU.out.add L7); have HZb := hid (show Y gb ∨ (wr.heap.size ≤ gb ∧ gb < w7.heap.size) from Or.inr ⟨G7, G8⟩); have HNb := hid (show gb ≠ pc from fun e => by have := HU.out.dw.lt pc HU.out.zp; omega); clear B7 L7 G7 G8)
                | (go_at_call 27; go_loud (with_reducible refine (HU7.out.arm _ har).mono ?_); rintro e w8 ⟨rfl, U8, K8⟩; have HU8 := hid U8; have HB8 := hid (K8.blk HB7.out (Or.inr HZb.out)); clear U8 K8)
                | (go_at_call 26; go_loud (with_reducible refine (CC.out _ _ HU8.out).mono ?_); rintro e w10 ⟨rfl, ⟨k10, U10⟩, K10⟩; have HU10 := hid U10; have HB10 := hid (K10.blk HB8.out ⟨Or.inr HZb.out, HNb.out⟩); clear U10 K10)
                | (go_at_call 17; go_loud (with_reducible refine (CD.out _ _ _ HU10.out).mono ?_); rintro e w11 ⟨rfl, hw⟩; subst w11)
                | (go_at_call 28; go_loud (with_reducible refine (HU10.out.mend kp keep kc tn cut HPn.out (HBK.out _ HU10.out.dw.bel) HKs.out).mono ?_); rintro e w12 ⟨rfl, U12, K12⟩; have HU12 := hid U12; have HB12 := hid (K12.blk HB10.out (Or.inr HZb.out)); clear U12 K12)
                | (go_at_call 29; go_loud (with_reducible refine (HU12.out.open_ HJ.out hg').mono ?_); rintro e w13 ⟨qb, rfl, U13, B13⟩; have HU13 := hid U13; have HB13 := hid (HB12.out.below B13 HB12.out.lt); clear U13 B13)
                | (go_at_call 20; go_loud (with_reducible refine (CR.out _ db qb _ _ HU13.out.pag).mono ?_); rintro e w14 ⟨rfl, B14⟩; have HU14 := hid (HU13.out.grow B14); have HB14 := hid (HB13.out.below B14 HB13.out.lt); clear B14)
                | (go_at_call 30; (with_reducible refine (HR3.out _ _ qb _ _ _ HU14.out HJ.out).mono ?_; rintro e w15 ⟨B15, q15, rfl, Y15⟩; have HU15 := hid (HU14.out.grow B15); have HB15 := hid (HB14.out.below B15 HB14.out.lt); have v15 := conv508 HFl.out Y15; have v16 := conv508 HFl.out HU15.out.first.byts'; clear B15 Y15))
                | fail)
              go_roundw
              case rel => exact ⟨k + 1, qb, 0, (g + 1), _, _, hx1, hx2, rfl, rfl, rfl, rfl, by omega, HU15.out, HJ.out⟩
              case measure => simp [RowKit.intOf]; omega)
          · skip
            have HJ := hid q
            rw [e] at CC
            clear e q
            have hg' : (g + 1) < 200 := by omega
            cases hrn : ((r : Int) == 0)
            all_goals as_aux_lemma => (
              have hnr : ((0 : Int) == (r : Int)) = _ := (Bool.beq_comm ..).trans hrn
              go_wp2_with (first
                | (go_at_call 24; go_loud (with_reducible refine CL.out.mono ?_); rintro e w7 ⟨gb, rfl, B7, L7, G7, G8⟩; have HB7 := hid B7; have HU7 := hid (HU.out.add L7); have HZb := hid (show Y gb ∨ (wr.heap.size ≤ gb ∧ gb < w7.heap.size) from Or.inr ⟨G7, G8⟩); have HNb := hid (show gb ≠ pc from fun e => by have := HU.out.dw.lt pc HU.out.zp; omega); clear B7 L7 G7 G8)
                | (go_at_call 27; go_loud (with_reducible refine (HU7.out.arm _ har).mono ?_); rintro e w8 ⟨rfl, U8, K8⟩; have HU8 := hid U8; have HB8 := hid (K8.blk HB7.out (Or.inr HZb.out)); clear U8 K8)
                | (go_at_call 26; go_loud (with_reducible refine (CC.out _ _ HU8.out).mono ?_); rintro e w10 ⟨rfl, ⟨k10, U10⟩, K10⟩; have HU10 := hid U10; have HB10 := hid (K10.blk HB8.out ⟨Or.inr HZb.out, HNb.out⟩); clear U10 K10)
                | (go_at_call 17; go_loud (with_reducible refine (CD.out _ _ _ HU10.out).mono ?_); rintro e w11 ⟨rfl, hw⟩; subst w11)
                | (go_at_call 28; go_loud (with_reducible refine (HU10.out.mend kp keep kc tn cut HPn.out (HBK.out _ HU10.out.dw.bel) HKs.out).mono ?_); rintro e w12 ⟨rfl, U12, K12⟩; have HU12 := hid U12; have HB12 := hid (K12.blk HB10.out (Or.inr HZb.out)); clear U12 K12)
                | (go_at_call 29; go_loud (with_reducible refine (HU12.out.open_ HJ.out hg').mono ?_); rintro e w13 ⟨qb, rfl, U13, B13⟩; have HU13 := hid U13; have HB13 := hid (HB12.out.below B13 HB12.out.lt); clear U13 B13)
                | (go_at_call 20; go_loud (with_reducible refine (CR.out _ db qb _ _ HU13.out.pag).mono ?_); rintro e w14 ⟨rfl, B14⟩; have HU14 := hid (HU13.out.grow B14); have HB14 := hid (HB13.out.below B14 HB13.out.lt); clear B14)
                | (go_at_call 30; (with_reducible refine (HR3.out _ _ qb _ _ _ HU14.out HJ.out).mono ?_; rintro e w15 ⟨B15, q15, rfl, Y15⟩; have HU15 := hid (HU14.out.grow B15); have HB15 := hid (HB14.out.below B15 HB14.out.lt); have v15 := conv508 HFl.out Y15; have v16 := conv508 HFl.out HU15.out.first.byts'; clear B15 Y15))
                | fail)
              go_roundw
              case rel => exact ⟨k + 1, qb, 0, (g + 1), _, _, hx1, hx2, rfl, rfl, rfl, rfl, by omega, HU15.out, HJ.out⟩
              case measure => simp [RowKit.intOf]; omega)
        · have hq1b : ((qn : Int) == 1) = false := by rw [beq_eq_false_iff_ne]; omega
          have hq3 : ((2 : Int) + (qn : Int) == 3) = false := by rw [beq_eq_false_iff_ne]; omega
          have hq3p : ¬ ((2 : Int) + (qn : Int) = 3) := by omega
          have hpos : (0 : Int) < 2 + (qn : Int) := by omega
          have hcst : ((2 + qn : Nat) : Int) = 2 + (qn : Int) := by omega
          have HPn1 : Hid ((d.armed ((an : Int) + (k : Int) % 3)).pend.length < 900) := by show _ < _; have := HI.out.pend; show d.pend.length < 900; rw [this]; decide
          have hway := whole_page HI.out (by omega) ((an : Int) + (k : Int) % 3) har (n := 2 + qn) (by omega) (by omega) (by omega) HBl.out keep tn cut
          rw [hcst] at hway
          have CW : Hid (∀ (w5 : World) (gb : Nat) (Y5 : Nat → Prop), WW w1.heap.size w1 w5 db pc fb (d.armed ((an : Int) + (k : Int) % 3)) ⟨g, r, false⟩ F Y5 → Blk w5 gb (bcells bl) 5 → Calls Try.prog 25 #[.pointer (some ⟨pc, 0, none⟩), .int .i64 (2 + (qn : Int)), .slice (some ⟨gb, 0, none⟩) 508 508] w5 fun e w' => e = .returned (.int .i64 ((d.armed ((an : Int) + (k : Int) % 3)).pwErr (2 + (qn : Int)) bl)) ∧ WW w1.heap.size w1 w' db pc fb ((d.armed ((an : Int) + (k : Int) % 3)).pw (2 + (qn : Int)) bl) ⟨g, r, false⟩ F Y5 ∧ Kept (old w1.heap.size Y5) w5 w') := fun w5 gb Y5 h b => h.write _ gb bl HBl.out b (Nat.lt_trans HPn1.out (by decide))
          rcases hway with ⟨e, o, q⟩ | ⟨e, hpg, hpl, hway⟩
          · have CD : Hid (∀ (w5 : World) (k5 : Pk) (Y5 : Nat → Prop), WW w1.heap.size w1 w5 db pc fb ((d.armed ((an : Int) + (k : Int) % 3)).pw (2 + (qn : Int)) bl) k5 F Y5 → Calls Try.prog 17 #[.pointer (some ⟨db, 0, none⟩)] w5 fun e w' => e = .returned (.bool ((d.armed ((an : Int) + (k : Int) % 3)).pw (2 + (qn : Int)) bl).down) ∧ w' = w5) := fun w5 k5 Y5 h => h.dw.downs
            have HPn : Hid (((d.armed ((an : Int) + (k : Int) % 3)).pw (2 + (qn : Int)) bl).pend.length < 1000) := by show _ < _; have := pend_pw (d.armed ((an : Int) + (k : Int) % 3)) (2 + (qn : Int)) bl; have := HPn1.out; omega
            have HJ := hid q
            rw [e] at CW
            rw [o] at CD
            clear e o q
            have hg' : g < 200 := by omega
            cases hrn : ((r : Int) == 2 + (qn : Int))
            all_goals as_aux_lemma => (
              have hnr : ((2 + (qn : Int)) == (r : Int)) = _ := (Bool.beq_comm ..).trans hrn
              go_wp2_with (first
                | (go_at_call 24; go_loud (with_reducible refine CL.out.mono ?_); rintro e w7 ⟨gb, rfl, B7, L7, G7, G8⟩; have HB7 := hid B7; have HU7 := hid (HU.out.add L7); have HZb := hid (show Y gb ∨ (wr.heap.size ≤ gb ∧ gb < w7.heap.size) from Or.inr ⟨G7, G8⟩); have HNb := hid (show gb ≠ pc from fun e => by have := HU.out.dw.lt pc HU.out.zp; omega); clear B7 L7 G7 G8)
                | (go_at_call 27; go_loud (with_reducible refine (HU7.out.arm _ har).mono ?_); rintro e w8 ⟨rfl, U8, K8⟩; have HU8 := hid U8; have HB8 := hid (K8.blk HB7.out (Or.inr HZb.out)); clear U8 K8)
                | (go_at_call 25; go_loud (with_reducible refine (CW.out _ gb _ HU8.out HB8.out).mono ?_); rintro e w9 ⟨rfl, U9, K9⟩; have HU9 := hid U9; have HB9 := hid (K9.blk HB8.out (Or.inr HZb.out)); clear U9 K9)
                | (go_at_call 17; go_loud (with_reducible refine (CD.out _ _ _ HU9.out).mono ?_); rintro e w11 ⟨rfl, hw⟩; subst w11)
                | (go_at_call 28; go_loud (with_reducible refine (HU9.out.mend kp keep kc tn cut HPn.out (HBK.out _ HU9.out.dw.bel) HKs.out).mono ?_); rintro e w12 ⟨rfl, U12, K12⟩; have HU12 := hid U12; have HB12 := hid (K12.blk HB9.out (Or.inr HZb.out)); clear U12 K12)
                | (go_at_call 29; go_loud (with_reducible refine (HU12.out.open_ HJ.out hg').mono ?_); rintro e w13 ⟨qb, rfl, U13, B13⟩; have HU13 := hid U13; have HB13 := hid (HB12.out.below B13 HB12.out.lt); clear U13 B13)
                | (go_at_call 20; go_loud (with_reducible refine (CR.out _ db qb _ _ HU13.out.pag).mono ?_); rintro e w14 ⟨rfl, B14⟩; have HU14 := hid (HU13.out.grow B14); have HB14 := hid (HB13.out.below B14 HB13.out.lt); clear B14)
                | (go_at_call 30; (with_reducible refine (HR3.out _ _ qb _ _ _ HU14.out HJ.out).mono ?_; rintro e w15 ⟨B15, q15, rfl, Y15⟩; have HU15 := hid (HU14.out.grow B15); have HB15 := hid (HB14.out.below B15 HB14.out.lt); have v15 := conv508 HFl.out Y15; have v16 := conv508 HFl.out HU15.out.first.byts'; clear B15 Y15))
                | fail)
              go_roundw
              case rel => exact ⟨k + 1, qb, r, g, _, _, hx1, hx2, rfl, rfl, rfl, rfl, by omega, HU15.out, HJ.out⟩
              case measure => simp [RowKit.intOf]; omega)
          · rw [e] at CW
            have CC : Hid (∀ (w5 : World) (Y5 : Nat → Prop), WW w1.heap.size w1 w5 db pc fb ((d.armed ((an : Int) + (k : Int) % 3)).pw (2 + (qn : Int)) bl) ⟨g, r, false⟩ F Y5 → Calls Try.prog 26 #[.pointer (some ⟨pc, 0, none⟩), .int .i64 (2 + (qn : Int))] w5 fun e w' => e = .returned (.int .i64 (((d.armed ((an : Int) + (k : Int) % 3)).pw (2 + (qn : Int)) bl).cmErr (g + 1) (2 + qn))) ∧ (∃ k', WW w1.heap.size w1 w' db pc fb (((d.armed ((an : Int) + (k : Int) % 3)).pw (2 + (qn : Int)) bl).cm (g + 1) (2 + qn)) k' F Y5) ∧ Kept (fun j => old w1.heap.size Y5 j ∧ j ≠ pc) w5 w') := fun w5 Y5 h => by
              have := h.commit (2 + qn) (root7 9 qn rfl (by omega)) hpg rfl (show g < 200 by omega) (by omega)
              rwa [hcst] at this
            have CD : Hid (∀ (w5 : World) (k5 : Pk) (Y5 : Nat → Prop), WW w1.heap.size w1 w5 db pc fb (((d.armed ((an : Int) + (k : Int) % 3)).pw (2 + (qn : Int)) bl).cm (g + 1) (2 + qn)) k5 F Y5 → Calls Try.prog 17 #[.pointer (some ⟨db, 0, none⟩)] w5 fun e w' => e = .returned (.bool (((d.armed ((an : Int) + (k : Int) % 3)).pw (2 + (qn : Int)) bl).cm (g + 1) (2 + qn)).down) ∧ w' = w5) := fun w5 k5 Y5 h => h.dw.downs
            have HPn : Hid ((((d.armed ((an : Int) + (k : Int) % 3)).pw (2 + (qn : Int)) bl).cm (g + 1) (2 + qn)).pend.length < 1000) := by show _ < _; have := pend_cm ((d.armed ((an : Int) + (k : Int) % 3)).pw (2 + (qn : Int)) bl) (g + 1) (2 + qn); omega
            have CN : Hid (((((d.armed ((an : Int) + (k : Int) % 3)).pw (2 + (qn : Int)) bl).cm (g + 1) (2 + qn)).mended keep tn cut).has (2 + (qn : Int)) = sealed bl → ∀ (w5 : World) (qb g5 r5 : Nat) (Y5 : Nat → Prop), WW w1.heap.size w1 w5 db qb fb ((((d.armed ((an : Int) + (k : Int) % 3)).pw (2 + (qn : Int)) bl).cm (g + 1) (2 + qn)).mended keep tn cut) ⟨g5, r5, false⟩ F Y5 → Inv ((((d.armed ((an : Int) + (k : Int) % 3)).pw (2 + (qn : Int)) bl).cm (g + 1) (2 + qn)).mended keep tn cut) g5 r5 (sealed F) → Calls Try.prog 30 #[.pointer (some ⟨qb, 0, none⟩), .int .i64 (2 + (qn : Int))] w5 fun e w' => Below w5.heap.size w5 w' ∧ ∃ q, e = .returned (.tuple #[.slice (some ⟨q, 0, none⟩) 508 508, .int .i64 0]) ∧ Byts w' (some ⟨q, 0, none⟩) bl) := fun hh w5 qb g5 r5 Y5 h i => h.read i (by omega) (by omega) HBl.out hh
            rcases hway with ⟨e, o, q | ⟨q, f⟩⟩ | ⟨e, q, f⟩
            · skip
              have HJ := hid q
              rw [e] at CC
              rw [o] at CD
              clear e o q
              have hg' : g < 200 := by omega
              cases hrn : ((r : Int) == 2 + (qn : Int))
              all_goals as_aux_lemma => (
                have hnr : ((2 + (qn : Int)) == (r : Int)) = _ := (Bool.beq_comm ..).trans hrn
                go_wp2_with (first
                  | (go_at_call 24; go_loud (with_reducible refine CL.out.mono ?_); rintro e w7 ⟨gb, rfl, B7, L7, G7, G8⟩; have HB7 := hid B7; have HU7 := hid (HU.out.add L7); have HZb := hid (show Y gb ∨ (wr.heap.size ≤ gb ∧ gb < w7.heap.size) from Or.inr ⟨G7, G8⟩); have HNb := hid (show gb ≠ pc from fun e => by have := HU.out.dw.lt pc HU.out.zp; omega); clear B7 L7 G7 G8)
                  | (go_at_call 27; go_loud (with_reducible refine (HU7.out.arm _ har).mono ?_); rintro e w8 ⟨rfl, U8, K8⟩; have HU8 := hid U8; have HB8 := hid (K8.blk HB7.out (Or.inr HZb.out)); clear U8 K8)
                  | (go_at_call 25; go_loud (with_reducible refine (CW.out _ gb _ HU8.out HB8.out).mono ?_); rintro e w9 ⟨rfl, U9, K9⟩; have HU9 := hid U9; have HB9 := hid (K9.blk HB8.out (Or.inr HZb.out)); clear U9 K9)
                  | (go_at_call 26; go_loud (with_reducible refine (CC.out _ _ HU9.out).mono ?_); rintro e w10 ⟨rfl, ⟨k10, U10⟩, K10⟩; have HU10 := hid U10; have HB10 := hid (K10.blk HB9.out ⟨Or.inr HZb.out, HNb.out⟩); clear U10 K10)
                  | (go_at_call 17; go_loud (with_reducible refine (CD.out _ _ _ HU10.out).mono ?_); rintro e w11 ⟨rfl, hw⟩; subst w11)
                  | (go_at_call 28; go_loud (with_reducible refine (HU10.out.mend kp keep kc tn cut HPn.out (HBK.out _ HU10.out.dw.bel) HKs.out).mono ?_); rintro e w12 ⟨rfl, U12, K12⟩; have HU12 := hid U12; have HB12 := hid (K12.blk HB10.out (Or.inr HZb.out)); clear U12 K12)
                  | (go_at_call 29; go_loud (with_reducible refine (HU12.out.open_ HJ.out hg').mono ?_); rintro e w13 ⟨qb, rfl, U13, B13⟩; have HU13 := hid U13; have HB13 := hid (HB12.out.below B13 HB12.out.lt); clear U13 B13)
                  | (go_at_call 20; go_loud (with_reducible refine (CR.out _ db qb _ _ HU13.out.pag).mono ?_); rintro e w14 ⟨rfl, B14⟩; have HU14 := hid (HU13.out.grow B14); have HB14 := hid (HB13.out.below B14 HB13.out.lt); clear B14)
                  | (go_at_call 30; (with_reducible refine (HR3.out _ _ qb _ _ _ HU14.out HJ.out).mono ?_; rintro e w15 ⟨B15, q15, rfl, Y15⟩; have HU15 := hid (HU14.out.grow B15); have HB15 := hid (HB14.out.below B15 HB14.out.lt); have v15 := conv508 HFl.out Y15; have v16 := conv508 HFl.out HU15.out.first.byts'; clear B15 Y15))
                  | fail)
                go_roundw
                case rel => exact ⟨k + 1, qb, r, g, _, _, hx1, hx2, rfl, rfl, rfl, rfl, by omega, HU15.out, HJ.out⟩
                case measure => simp [RowKit.intOf]; omega)
            · skip
              have HJ := hid q
              rw [e] at CC
              rw [o] at CD
              have CN := hid (fun (w5 : World) (qb : Nat) (Y5 : Nat → Prop) (h : WW w1.heap.size w1 w5 db qb fb ((((d.armed ((an : Int) + (k : Int) % 3)).pw (2 + (qn : Int)) bl).cm (g + 1) (2 + qn)).mended keep tn cut) ⟨g + 1, 2 + qn, false⟩ F Y5) => CN.out f w5 qb _ _ Y5 h HJ.out)
              clear e o q f
              have hg' : (g + 1) < 200 := by omega
              cases hrn : ((r : Int) == 2 + (qn : Int))
              all_goals as_aux_lemma => (
                have hnr : ((2 + (qn : Int)) == (r : Int)) = _ := (Bool.beq_comm ..).trans hrn
                go_wp2_with (first
                  | (go_at_call 24; go_loud (with_reducible refine CL.out.mono ?_); rintro e w7 ⟨gb, rfl, B7, L7, G7, G8⟩; have HB7 := hid B7; have HU7 := hid (HU.out.add L7); have HZb := hid (show Y gb ∨ (wr.heap.size ≤ gb ∧ gb < w7.heap.size) from Or.inr ⟨G7, G8⟩); have HNb := hid (show gb ≠ pc from fun e => by have := HU.out.dw.lt pc HU.out.zp; omega); clear B7 L7 G7 G8)
                  | (go_at_call 27; go_loud (with_reducible refine (HU7.out.arm _ har).mono ?_); rintro e w8 ⟨rfl, U8, K8⟩; have HU8 := hid U8; have HB8 := hid (K8.blk HB7.out (Or.inr HZb.out)); clear U8 K8)
                  | (go_at_call 25; go_loud (with_reducible refine (CW.out _ gb _ HU8.out HB8.out).mono ?_); rintro e w9 ⟨rfl, U9, K9⟩; have HU9 := hid U9; have HB9 := hid (K9.blk HB8.out (Or.inr HZb.out)); clear U9 K9)
                  | (go_at_call 26; go_loud (with_reducible refine (CC.out _ _ HU9.out).mono ?_); rintro e w10 ⟨rfl, ⟨k10, U10⟩, K10⟩; have HU10 := hid U10; have HB10 := hid (K10.blk HB9.out ⟨Or.inr HZb.out, HNb.out⟩); clear U10 K10)
                  | (go_at_call 17; go_loud (with_reducible refine (CD.out _ _ _ HU10.out).mono ?_); rintro e w11 ⟨rfl, hw⟩; subst w11)
                  | (go_at_call 28; go_loud (with_reducible refine (HU10.out.mend kp keep kc tn cut HPn.out (HBK.out _ HU10.out.dw.bel) HKs.out).mono ?_); rintro e w12 ⟨rfl, U12, K12⟩; have HU12 := hid U12; have HB12 := hid (K12.blk HB10.out (Or.inr HZb.out)); clear U12 K12)
                  | (go_at_call 29; go_loud (with_reducible refine (HU12.out.open_ HJ.out hg').mono ?_); rintro e w13 ⟨qb, rfl, U13, B13⟩; have HU13 := hid U13; have HB13 := hid (HB12.out.below B13 HB12.out.lt); clear U13 B13)
                  | (go_at_call 20; go_loud (with_reducible refine (CR.out _ db qb _ _ HU13.out.pag).mono ?_); rintro e w14 ⟨rfl, B14⟩; have HU14 := hid (HU13.out.grow B14); have HB14 := hid (HB13.out.below B14 HB13.out.lt); clear B14)
                  | (go_at_call 30; first | (with_reducible refine (CN.out _ qb _ HU15.out).mono ?_; rintro e w17 ⟨B17, q17, rfl, Y17⟩; have HU17 := hid (HU15.out.grow B17); have v17 := conv508 HBl.out Y17; have v18 := conv508 HBl.out (HB15.out.below B17 HB15.out.lt).byts'; clear B17 Y17) | (with_reducible refine (HR3.out _ _ qb _ _ _ HU14.out HJ.out).mono ?_; rintro e w15 ⟨B15, q15, rfl, Y15⟩; have HU15 := hid (HU14.out.grow B15); have HB15 := hid (HB14.out.below B15 HB14.out.lt); have v15 := conv508 HFl.out Y15; have v16 := conv508 HFl.out HU15.out.first.byts'; clear B15 Y15))
                  | fail)
                go_roundw
                case rel => exact ⟨k + 1, qb, (2 + qn), (g + 1), _, _, hx1, hx2, rfl, rfl, rfl, rfl, by omega, HU17.out, HJ.out⟩
                case measure => simp [RowKit.intOf]; omega)
            · skip
              have HJ := hid q
              rw [e] at CC
              have CN := hid (fun (w5 : World) (qb : Nat) (Y5 : Nat → Prop) (h : WW w1.heap.size w1 w5 db qb fb ((((d.armed ((an : Int) + (k : Int) % 3)).pw (2 + (qn : Int)) bl).cm (g + 1) (2 + qn)).mended keep tn cut) ⟨g + 1, 2 + qn, false⟩ F Y5) => CN.out f w5 qb _ _ Y5 h HJ.out)
              clear e q f
              have hg' : (g + 1) < 200 := by omega
              cases hrn : ((r : Int) == 2 + (qn : Int))
              all_goals as_aux_lemma => (
                have hnr : ((2 + (qn : Int)) == (r : Int)) = _ := (Bool.beq_comm ..).trans hrn
                go_wp2_with (first
                  | (go_at_call 24; go_loud (with_reducible refine CL.out.mono ?_); rintro e w7 ⟨gb, rfl, B7, L7, G7, G8⟩; have HB7 := hid B7; have HU7 := hid (HU.out.add L7); have HZb := hid (show Y gb ∨ (wr.heap.size ≤ gb ∧ gb < w7.heap.size) from Or.inr ⟨G7, G8⟩); have HNb := hid (show gb ≠ pc from fun e => by have := HU.out.dw.lt pc HU.out.zp; omega); clear B7 L7 G7 G8)
                  | (go_at_call 27; go_loud (with_reducible refine (HU7.out.arm _ har).mono ?_); rintro e w8 ⟨rfl, U8, K8⟩; have HU8 := hid U8; have HB8 := hid (K8.blk HB7.out (Or.inr HZb.out)); clear U8 K8)
                  | (go_at_call 25; go_loud (with_reducible refine (CW.out _ gb _ HU8.out HB8.out).mono ?_); rintro e w9 ⟨rfl, U9, K9⟩; have HU9 := hid U9; have HB9 := hid (K9.blk HB8.out (Or.inr HZb.out)); clear U9 K9)
                  | (go_at_call 26; go_loud (with_reducible refine (CC.out _ _ HU9.out).mono ?_); rintro e w10 ⟨rfl, ⟨k10, U10⟩, K10⟩; have HU10 := hid U10; have HB10 := hid (K10.blk HB9.out ⟨Or.inr HZb.out, HNb.out⟩); clear U10 K10)
                  | (go_at_call 17; go_loud (with_reducible refine (CD.out _ _ _ HU10.out).mono ?_); rintro e w11 ⟨rfl, hw⟩; subst w11)
                  | (go_at_call 28; go_loud (with_reducible refine (HU10.out.mend kp keep kc tn cut HPn.out (HBK.out _ HU10.out.dw.bel) HKs.out).mono ?_); rintro e w12 ⟨rfl, U12, K12⟩; have HU12 := hid U12; have HB12 := hid (K12.blk HB10.out (Or.inr HZb.out)); clear U12 K12)
                  | (go_at_call 29; go_loud (with_reducible refine (HU12.out.open_ HJ.out hg').mono ?_); rintro e w13 ⟨qb, rfl, U13, B13⟩; have HU13 := hid U13; have HB13 := hid (HB12.out.below B13 HB12.out.lt); clear U13 B13)
                  | (go_at_call 20; go_loud (with_reducible refine (CR.out _ db qb _ _ HU13.out.pag).mono ?_); rintro e w14 ⟨rfl, B14⟩; have HU14 := hid (HU13.out.grow B14); have HB14 := hid (HB13.out.below B14 HB13.out.lt); clear B14)
                  | (go_at_call 30; first | (with_reducible refine (CN.out _ qb _ HU15.out).mono ?_; rintro e w17 ⟨B17, q17, rfl, Y17⟩; have HU17 := hid (HU15.out.grow B17); have v17 := conv508 HBl.out Y17; have v18 := conv508 HBl.out (HB15.out.below B17 HB15.out.lt).byts'; clear B17 Y17) | (with_reducible refine (HR3.out _ _ qb _ _ _ HU14.out HJ.out).mono ?_; rintro e w15 ⟨B15, q15, rfl, Y15⟩; have HU15 := hid (HU14.out.grow B15); have HB15 := hid (HB14.out.below B15 HB14.out.lt); have v15 := conv508 HFl.out Y15; have v16 := conv508 HFl.out HU15.out.first.byts'; clear B15 Y15))
                  | fail)
                go_roundw
                case rel => exact ⟨k + 1, qb, (2 + qn), (g + 1), _, _, hx1, hx2, rfl, rfl, rfl, rfl, by omega, HU17.out, HJ.out⟩
                case measure => simp [RowKit.intOf]; omega)
      · obtain rfl : k = 8 := by omega
        have hx1' : (8 : Int) < (roots.length : Int) := by omega
        clear U hI
        go_wp2
        go_ret
        exact ⟨rfl, HB1.out.trans (HU.out.dw.bel.mono HB1.out.size)⟩
    · have hx1' : ¬ ((k : Int) < (roots.length : Int)) := by omega
      clear U hI
      go_wp2
      go_ret
      exact ⟨rfl, HB1.out.trans (HU.out.dw.bel.mono HB1.out.size)⟩
end Go.Proofs.Ytnecigbncggogaa
