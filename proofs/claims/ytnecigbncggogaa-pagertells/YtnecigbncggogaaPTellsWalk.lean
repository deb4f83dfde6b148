/- What PagerTells does: whatever rows of bytes, numbers and byte it is called with, it answers true and leaves memory as it was. No conditions. -/
import Derived.Test.YtnecigbncggogaaPgWorks
import Derived.Test.YtnecigbncggogaaPgOpenX
namespace Go.Proofs.Ytnecigbncggogaa
open Go.RowKit
set_option linter.unusedVariables false
set_option maxRecDepth 20000

theorem FW.less {s : Nat} {w0 w : World} {db pb P c : Nat} {H : Int → List UInt8} {k : Pk} {Z Y : Nat → Prop} (h : FW s w0 w db pb P H c k Z) (hy : ∀ j, Y j → Z j) (hz : Y pb) : FW s w0 w db pb P H c k Y := by
  obtain ⟨d, D, F⟩ := h.ex
  exact ⟨⟨d, D.less hy, F⟩, h.pag, hz, h.hs⟩
/-- The load of a page of the law. -/
def ldT (l : List (List UInt8)) (i : Nat) : List UInt8 := loadM (l.getD i [])
theorem ldT_len (l : List (List UInt8)) (i : Nat) : (ldT l i).length = 508 := loadM_len _
theorem ldT_in {l : List (List UInt8)} {i : Nat} (h : i < l.length) : ldT l i = loadM l[i] := by
  unfold ldT
  rw [List.getD_eq_getElem?_getD, List.getElem?_eq_getElem h, Option.getD_some]
theorem ldT_out {l : List (List UInt8)} {i : Nat} (h : ¬ i < l.length) : ldT l i = zeros 508 := by
  unfold ldT
  rw [List.getD_eq_getElem?_getD, List.getElem?_eq_none (by omega), Option.getD_none]
  rfl
def Laid (l : List (List UInt8)) (H : Int → List UInt8) (k : Nat) : Prop := ∀ m, m < k → H (2 + (m : Int)) = sealed (ldT l m)
theorem Laid.next {l : List (List UInt8)} {H : Int → List UInt8} {k : Nat} (h : Laid l H k) : Laid l (putP H (2 + (k : Int)) (sealed (ldT l k))) (k + 1) := by
  intro m hm
  unfold putP
  by_cases e : m = k
  · subst e
    rw [if_pos rfl]
  · rw [if_neg (by omega)]
    exact h m (by omega)
theorem turned_right {l : List (List UInt8)} {H : Int → List UInt8} (h : Laid l H 7) (qn : Nat) (hq : qn < 7) (i : Nat) (hi : i < 512) (b : UInt8) (hb : b ≠ 0) (hlen : (H (2 + (qn : Int))).length = 512) :
    right (putP H (2 + (qn : Int)) ((H (2 + (qn : Int))).set i ((H (2 + (qn : Int)))[i] ^^^ b)) (2 + (qn : Int))) = false := by
  unfold putP
  rw [if_pos rfl]
  have e := h qn hq
  have key : ∀ X : List UInt8, (hX : X = sealed (ldT l qn)) → (hl : X.length = 512) → right (X.set i (X[i] ^^^ b)) = false := by
    intro X hX hl
    subst hX
    refine turned_not_right (ldT_len l qn) i hi _ ?_
    rw [List.getElem?_eq_getElem (by omega)]
    intro he
    simp only [Option.some.injEq] at he
    have h2 := congrArg (fun x => (sealed (ldT l qn))[i] ^^^ x) he
    simp only [← UInt8.xor_assoc, UInt8.xor_self, UInt8.zero_xor] at h2
    exact hb h2.symm
  exact key _ e hlen
theorem other_right {l : List (List UInt8)} {H : Int → List UInt8} (h : Laid l H 7) (n : Int) (b : List UInt8) (m : Nat) (hm : m < 7) (hn : 2 + (m : Int) ≠ n) : right (putP H n b (2 + (m : Int))) = true := by
  unfold putP
  rw [if_neg hn, h m hm]
  exact right_sealed (ldT_len l m)
set_option maxHeartbeats 8000000 in
theorem ptells_walk (l : List (List UInt8)) (page at_ : Int) (by_ : UInt8) (p : Option Addr) (c : Nat) (w : World) (hL : Bss w p l) (hl : l.length ≤ maxLen) :
    Calls Try.prog 8 #[.slice p l.length c, .int .i64 page, .int .i64 at_, .int .u8 (by_.toNat : Int)] w fun e w' => e = .returned (.bool true) ∧ Below w.heap.size w w' := by
  have C1 := hid (pworks_any w)
  have C2 : Hid (∀ w1 : World, Calls Try.prog 23 #[.int .i64 9] w1 fun e w' => ∃ db pb Z, e = .returned (.tuple #[.pointer (some ⟨db, 0, none⟩), .pointer (some ⟨pb, 0, none⟩)]) ∧ FW w1.heap.size w1 w' db pb 9 H0 0 ⟨1, 0, false⟩ Z) := fun w1 => fresh_any w1 9 (by decide) (by decide)
  have HL := hid hL
  clear hL
  by_cases hby : by_ = 0
  · subst hby
    have hb0 : ((((0 : UInt8).toNat : Nat) : Int) == 0) = true := by decide
    go_enter Try.func8, Try.ntmps8
    go_wp2_with (first
      | (go_at_call 22; go_loud (with_reducible refine C1.out.mono ?_); rintro e w1 ⟨rfl, B1⟩; have HB1 := hid B1; clear B1)
      | (go_at_call 23; go_loud (with_reducible refine (C2.out _).mono ?_); rintro e w2 ⟨db, pb, Z, rfl, D2⟩; have HD2 := hid D2; clear D2)
      | fail)
    go_ret
    exact ⟨rfl, HB1.out.trans (HD2.out.bel.mono HB1.out.size)⟩
  · have hby0 : ¬ (by_.toNat = 0) := fun h => hby (UInt8.toNat_inj.1 h)
    have hb0 : (((by_.toNat : Nat) : Int) == 0) = false := by rw [beq_eq_false_iff_ne]; omega
    have hmk := mk508
    go_enter Try.func8, Try.ntmps8
    go_wp2_with (first
      | (go_at_call 22; go_loud (with_reducible refine C1.out.mono ?_); rintro e w1 ⟨rfl, B1⟩; have HB1 := hid B1; clear B1)
      | (go_at_call 23; go_loud (with_reducible refine (C2.out _).mono ?_); rintro e w2 ⟨db, pb, Z, rfl, D2⟩; have HD2 := hid D2; clear D2)
      | fail)
    clear C1 C2
    go_loopw [11] (fun i wr => ∃ (k : Nat) (H : Int → List UInt8), k ≤ 7 ∧ i = .int .i64 (k : Int) ∧ FW w1.heap.size w1 wr db pb 9 H k ⟨1, 0, false⟩ Z ∧ Laid l H k) (fun i _ => 7 - (RowKit.intOf i).toNat)
    case atStart => exact ⟨0, H0, Nat.zero_le _, rfl, HD2.out, fun m hm => absurd hm (Nat.not_lt_zero _)⟩
    case round =>
      clear HD2
      obtain ⟨k, H, hk, rfl, D, hLd⟩ := hrel
      have HD := hid D
      have HLd := hid hLd
      have hBw := HB1.out.trans (D.bel.mono HB1.out.size)
      clear D hLd
      by_cases hx : k < 7
      · have hx' : (k : Int) < 7 := by omega
        have HG := hid (Blk.new wr (bcells (zeros 508)) 5)
        have HBA : Hid (Below wr.heap.size wr (wr.alloc (.cells (bcells (zeros 508)).toArray 5))) := (Below.refl _ _).alloc (Nat.le_refl _) _
        have HDA := hid (HD.out.add HBA.out)
        have HSA : Hid (wr.heap.size < (wr.alloc (.cells (bcells (zeros 508)).toArray 5)).heap.size) := by show _ < _; simp
        have CW : Hid (∀ w5 : World, FW w1.heap.size w1 w5 db pb 9 H k ⟨1, 0, false⟩ Z → Byts w5 (some ⟨wr.heap.size, 0, none⟩) (ldT l k) → Calls Try.prog 25 #[.pointer (some ⟨pb, 0, none⟩), .int .i64 (2 + (k : Int)), .slice (some ⟨wr.heap.size, 0, none⟩) 508 508] w5 fun e w' => e = .returned (.int .i64 0) ∧ FW w1.heap.size w1 w' db pb 9 (putP H (2 + (k : Int)) (sealed (ldT l k))) (k + 1) ⟨1, 0, false⟩ Z) := fun w5 h5 y5 =>
          (h5.write (n := 2 + (k : Int)) (some ⟨wr.heap.size, 0, none⟩) (ldT l k) 508 (by omega) (by omega) (ldT_len l k) y5 (by omega)).mono (fun e w' x => ⟨x.1, x.2.1⟩)
        by_cases hin : k < l.length
        · obtain ⟨g, off, bp, bc, rfl, hc, hy⟩ := (HL.out.below (hBw.trans (HBA.out.mono hBw.size))).at hin
          have hin' : (k : Int) < (l.length : Int) := by omega
          have HT := hid (ldT_in hin)
          have HY := hid (hy.tk 508)
          have HN : Hid ((bcells (l[k].take 508)).length = Nat.min l[k].length 508) := by show _ = _; rw [bcells_len, List.length_take, Nat.min_comm]
          have HF : Hid (0 + (bcells (l[k].take 508)).length ≤ (bcells (zeros 508)).length) := by show _ ≤ _; rw [bcells_len, bcells_len, List.length_take, zeros_len]; omega
          have HLM : Hid (loadM l[k] = over (l[k].take 508) (zeros 508)) := rfl
          generalize l[k] = lk at *
          clear hy hBw
          go_wp2_with (first
            | (refine wl_copy rfl _ _ rfl wr.heap.size 0 508 508 _ _ _ rfl rfl (bcells (zeros 508)) 5 ?hb (bcells (lk.take 508)) ?hn ?hs ?hf (bcells_one _) ?_; (case hb => exact HG.out); (case hn => exact HN.out); (case hs => exact HY.out.src); (case hf => exact HF.out); intro w5 B5 C5 S5; rw [splice_over, ← HLM.out, ← HT.out] at B5; have HB5 := hid B5; have HD5 := hid (((HDA.out.turn (Or.inr ⟨Nat.le_refl _, HSA.out⟩) HD.out.size (fun e => by have := HD.out.lt pb HD.out.z; omega) C5))); clear B5 C5 S5)
            | (go_at_call 25; go_loud (with_reducible refine (CW.out _ (HD5.out.less (fun j z => Or.inl z) HD.out.z) HB5.out.byts').mono ?_); rintro e w6 ⟨rfl, D6⟩; have HD6 := hid D6; clear D6)
            | fail)
          go_roundw
          case rel => exact ⟨k + 1, _, hx, rfl, HD6.out, HLd.out.next⟩
          case measure => simp [RowKit.intOf]; omega
        · have hin' : ¬ ((k : Int) < (l.length : Int)) := by omega
          have HT := hid (ldT_out hin)
          clear hBw
          have HYz : Hid (Byts (wr.alloc (.cells (bcells (zeros 508)).toArray 5)) (some ⟨wr.heap.size, 0, none⟩) (ldT l k)) := by rw [HT.out]; exact HG.out.byts'
          go_wp2_with (first
            | (go_at_call 25; go_loud (with_reducible refine (CW.out _ (HD.out.grow HBA.out) HYz.out).mono ?_); rintro e w6 ⟨rfl, D6⟩; have HD6 := hid D6; clear D6)
            | fail)
          go_roundw
          case rel => exact ⟨k + 1, _, hx, rfl, HD6.out, HLd.out.next⟩
          case measure => simp [RowKit.intOf]; omega
      · obtain rfl : k = 7 := by omega
        clear hBw hmk
        obtain ⟨q, hq⟩ : ∃ q, wrap64 ((IntKind.u64.wrap page).tmod 7) = q := ⟨_, rfl⟩
        have hqb := umod_bd page 7 (by omega) (by omega)
        rw [hq] at hqb
        obtain ⟨hq0, hq1⟩ := hqb
        obtain ⟨qn, rfl⟩ : ∃ qn : Nat, q = (qn : Int) := ⟨q.toNat, by omega⟩
        obtain ⟨a, ha⟩ : ∃ a, wrap64 ((IntKind.u64.wrap at_).tmod 512) = a := ⟨_, rfl⟩
        have hab := umod_bd at_ 512 (by omega) (by omega)
        rw [ha] at hab
        obtain ⟨ha0, ha1⟩ := hab
        obtain ⟨an, rfl⟩ : ∃ an : Nat, a = (an : Int) := ⟨a.toNat, by omega⟩
        have hn512 : (H (2 + (qn : Int))).length = 512 := by
          obtain ⟨d, D, F⟩ := HD.out.ex
          rw [← F.has]
          exact F.ok.has _
        have HR1 := hid (turned_right HLd.out qn (by omega) an (by omega) by_ hby hn512)
        have HR2 : Hid (∀ m : Nat, m < 7 → 2 + (m : Int) ≠ 2 + (qn : Int) → right (putP H (2 + (qn : Int)) ((H (2 + (qn : Int))).set an ((H (2 + (qn : Int)))[an] ^^^ by_)) (2 + (m : Int))) = true) := fun m hm hne => other_right HLd.out _ _ m hm hne
        have CRd := hid (HD.out.dread (n := 2 + (qn : Int)) (by omega) (by omega))
        have hxor : bits .xor .u8 (((H (2 + (qn : Int)))[an].toNat : Nat) : Int) ((by_.toNat : Nat) : Int) = (((H (2 + (qn : Int)))[an].toNat ^^^ by_.toNat : Nat) : Int) := u8_xor_nat (H (2 + (qn : Int)))[an].toNat by_.toNat (UInt8.toNat_lt _) (UInt8.toNat_lt _)
        have HPc : Hid (∀ (w6 : World) (g : Nat), Pg w6 g (H (2 + (qn : Int))) → w6.cell? ⟨g, an, none⟩ = some (.int .u8 (((H (2 + (qn : Int)))[an].toNat : Nat) : Int)) ∧ w6.frozen? ⟨g, an, none⟩ = false ∧ Blk (w6.setCell ⟨g, an, none⟩ (.int .u8 (((H (2 + (qn : Int)))[an].toNat ^^^ by_.toNat : Nat) : Int))) g (bcells ((H (2 + (qn : Int))).set an ((H (2 + (qn : Int)))[an] ^^^ by_))) 93) := fun w6 g b6 => by
          refine ⟨(b6.blk.cell an).trans (bcells_at _), b6.blk.frozen an, ?_⟩
          have := b6.blk.set (i := an) (.int .u8 ((((H (2 + (qn : Int)))[an] ^^^ by_).toNat : Nat) : Int))
          rw [bcells_set, UInt8.toNat_xor] at this
          exact this
        have CWr : Hid (∀ (w5 : World) (g : Nat) (Y : Nat → Prop), FW w1.heap.size w1 w5 db pb 9 H 7 ⟨1, 0, false⟩ Y → Blk w5 g (bcells ((H (2 + (qn : Int))).set an ((H (2 + (qn : Int)))[an] ^^^ by_))) 93 → Y g → Calls Try.prog 38 #[.pointer (some ⟨db, 0, none⟩), .int .i64 (2 + (qn : Int)), .slice (some ⟨g, 0, none⟩) 512 512] w5 fun e w' => e = .returned (.int .i64 0) ∧ FW w1.heap.size w1 w' db pb 9 (putP H (2 + (qn : Int)) ((H (2 + (qn : Int))).set an ((H (2 + (qn : Int)))[an] ^^^ by_))) 8 ⟨1, 0, false⟩ Y) := fun w5 g Y h5 b5 hz =>
          (h5.dwrite (n := 2 + (qn : Int)) (some ⟨g, 0, none⟩) _ 512 (by omega) (by omega) (by rw [List.length_set]; exact hn512) b5.byts' (fun g' off e => by simp only [Option.some.injEq, Addr.mk.injEq, and_true] at e; rw [← e.1]; exact Or.inr (Or.inl hz)) (by decide)).mono (fun e w' x => ⟨x.1, x.2.1⟩)
        generalize putP H (2 + (qn : Int)) ((H (2 + (qn : Int))).set an ((H (2 + (qn : Int)))[an] ^^^ by_)) = H' at *
        generalize (H (2 + (qn : Int)))[an] = xb at *
        have hlt7 : (qn : Int) < 7 := hq1
        have HZl := hid (HD.out.lt pb HD.out.z)
        go_wp2_with (first
          | (go_at_call 37; go_loud (with_reducible refine CRd.out.mono ?_); rintro e w6 ⟨rfl, G6, B6⟩; obtain ⟨x60, x61, x62⟩ := HPc.out w6 _ G6; have HB6 := hid x62; have HD6 := hid (HD.out.add B6); have HL6 := hid (Blk.lt G6.blk); clear G6 B6 x62)
          | (go_at_call 38; go_loud (with_reducible refine (CWr.out _ _ _ (HD6.out.turn (Or.inr ⟨Nat.le_add_right _ 1, HL6.out⟩) (Nat.le_trans HD.out.size (Nat.le_add_right _ 1)) (fun e => by have := HZl.out; omega) (fun F hF => chg_set _ _ _ _ hF)) HB6.out (Or.inr ⟨Nat.le_add_right _ 1, HL6.out⟩)).mono ?_); rintro e w7 ⟨rfl, D7⟩; have HD7 := hid (D7.less (fun j z => Or.inl z) HD.out.z); clear D7)
          | fail)
        clear HB6 HD6 HL6 CRd CWr HPc x60 x61
        go_loopw [17] (fun i wq => ∃ m : Nat, m ≤ 7 ∧ i = .int .i64 (2 + (m : Int)) ∧ FW w1.heap.size w1 wq db pb 9 H' 8 ⟨1, 0, false⟩ Z) (fun i _ => 9 - (RowKit.intOf i).toNat)
        case atStart => exact ⟨0, by decide, rfl, HD7.out⟩
        case round =>
          clear HD7
          obtain ⟨m, hm, rfl, D⟩ := hrel
          have HD8 := hid D
          clear D
          by_cases hx7 : m < 7
          · have hx7' : (2 : Int) + (m : Int) < 9 := by omega
            by_cases hmq : m = qn
            · subst hmq
              have CB := hid (HD8.out.readBad HD8.out.pag (n := 2 + (m : Int)) (by omega) (by omega) HR1.out)
              go_wp2_with (first
                | (go_at_call 30; go_loud (with_reducible refine CB.out.mono ?_); rintro e w9 ⟨B9, rfl⟩; have HD9 := hid (HD8.out.grow B9); clear B9)
                | fail)
              go_roundw
              case rel => exact ⟨m + 1, hx7, by go_num, HD9.out⟩
              case measure => simp [RowKit.intOf]; omega
            · have hne : ((2 : Int) + (m : Int) == 2 + (qn : Int)) = false := by rw [beq_eq_false_iff_ne]; omega
              have hne2 : ¬ ((2 : Int) + (m : Int) = 2 + (qn : Int)) := by omega
              have CB := hid (HD8.out.read HD8.out.pag (n := 2 + (m : Int)) (by omega) (by omega) (HR2.out m hx7 hne2))
              go_wp2_with (first
                | (go_at_call 30; go_loud (with_reducible refine CB.out.mono ?_); rintro e w9 ⟨B9, g9, G9, rfl, Y9⟩; have HD9 := hid (HD8.out.grow B9); clear B9 G9 Y9)
                | fail)
              go_roundw
              case rel => exact ⟨m + 1, hx7, by go_num, HD9.out⟩
              case measure => simp [RowKit.intOf]; omega
          · obtain rfl : m = 7 := by omega
            go_wp2
            go_ret
            exact ⟨rfl, HB1.out.trans (HD8.out.bel.mono HB1.out.size)⟩
end Go.Proofs.Ytnecigbncggogaa
