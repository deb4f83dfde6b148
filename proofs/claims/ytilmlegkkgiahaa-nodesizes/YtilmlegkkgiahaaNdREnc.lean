/- What the document's Encode does with a right node that is no leaf, and with any node. Conditions: the node lies within the reach. -/
import Derived.Test.YtilmlegkkgiahaaNdREncL
namespace Go.Proofs.Ytilmlegkkgiahaa
open Go.RowKit Go.Lib
set_option linter.unusedVariables false
set_option maxRecDepth 20000

set_option maxHeartbeats 8000000 in
theorem rencode_inner {F : Nat → Prop} (pc pk pd : Option Addr) (cc ck cd Lc : Nat) (l : List (List UInt8)) (d : Int) (m : List Int) (w : World) (hK : Kys w F pk l) (hD : Kds w F pd (d :: m)) (hm : m.length = l.length) (hok : l.all kOk = true) (hpg : (d :: m).all isPage = true) (hl : 5 + lenKeys l ≤ 508)
    (A : ∀ w', Below w.heap.size w w' → Calls Try.prog 15 #[.agg #[.bool false, .slice pc Lc cc, .slice pk l.length ck, .slice pd (l.length + 1) cd]] w' fun e w2 => e = .returned (.int .i64 0) ∧ Below w'.heap.size w' w2) :
    Calls Try.prog 11 #[.agg #[.bool false, .slice pc Lc cc, .slice pk l.length ck, .slice pd (l.length + 1) cd]] w fun e w' => Below w.heap.size w w' ∧ ∃ v, e = .returned (.tuple #[v, .int .i64 0]) ∧ OwnB w' w.heap.size v (padTo 508 (2 :: (le2 l.length ++ (le2 d.toNat ++ encKids l m)))) := by
  have HB0 := hid (alloc_below w (.cells #[.bool false, .slice pc Lc cc, .slice pk l.length ck, .slice pd (l.length + 1) cd] 26))
  have HA := hid (A _ HB0.out)
  have H := hid hK.old
  have HD := hid (hD.mono (G := (· < w.heap.size)) (fun k hk _ => hk))
  have HOK := hid hok
  have HPG := hid hpg
  have HM := hid hm
  have hn3 := lenKeys_ge l
  have hn : l.length < 65536 := by omega
  have hd0 : 2 ≤ d ∧ d < 4096 := by
    simp only [List.all_cons, Bool.and_eq_true, isPage, decide_eq_true_eq] at hpg
    exact hpg.1
  obtain ⟨D, rfl⟩ : ∃ D : Nat, d = (D : Int) := ⟨d.toNat, by omega⟩
  have HX : Hid (∀ w', Below (w.alloc (.cells #[.bool false, .slice pc Lc cc, .slice pk l.length ck, .slice pd (l.length + 1) cd] 26)).heap.size (w.alloc (.cells #[.bool false, .slice pc Lc cc, .slice pk l.length ck, .slice pd (l.length + 1) cd] 26)) w' → w'.cell? ⟨w.heap.size, 0, none⟩ = some (.bool false) ∧ w'.cell? ⟨w.heap.size, 2, none⟩ = some (.slice pk l.length ck) ∧ w'.cell? ⟨w.heap.size, 3, none⟩ = some (.slice pd (l.length + 1) cd)) := fun w' b => ⟨(box4 b).1, (box4 b).2.2.1, (box4 b).2.2.2⟩
  have HW0 : Hid ((w.alloc (.cells #[.bool false, .slice pc Lc cc, .slice pk l.length ck, .slice pd (l.length + 1) cd] 26)).heap.size = w.heap.size + 1) := size1 _ _
  clear A hK hD hok hpg hm
  obtain ⟨gd, od, hq, _, _⟩ := HD.out.at (i := 0) (by simp)
  subst hq
  have HKd : Hid (∀ w' i (h : i < (((D : Int)) :: m).length), Below w.heap.size w w' → w'.cell? ⟨gd, od + i, none⟩ = some (.int .i64 ((((D : Int)) :: m)[i]))) := fun w' i h B => by
    obtain ⟨g', o', e, _, c⟩ := (HD.out.kp (Kp.of_below B)).at h
    simp only [Option.some.injEq, Addr.mk.injEq, and_true] at e
    obtain ⟨rfl, rfl⟩ := e
    exact c
  have HDD : Hid (D < 65536) := by show _ < _; omega
  have HLa : Hid ([(2 : UInt8)].length + (le2 l.length).length ≤ 1000000) := by show _ ≤ _; simp [le2_len]
  have HLb : Hid (([(2 : UInt8)] ++ le2 l.length).length + (le2 D).length ≤ 1000000) := by show _ ≤ _; simp [le2_len]
  have HL1 : Hid (∀ w3 : World, Below (w.alloc (.cells #[.bool false, .slice pc Lc cc, .slice pk l.length ck, .slice (some ⟨gd, od, none⟩) (l.length + 1) cd] 26)).heap.size (w.alloc (.cells #[.bool false, .slice pc Lc cc, .slice pk l.length ck, .slice (some ⟨gd, od, none⟩) (l.length + 1) cd] 26)) w3 → RS (w3.alloc (.cells #[.int .u8 2] 5)) (.slice (some ⟨w3.heap.size, 0, none⟩) 1 1) (w.alloc (.cells #[.bool false, .slice pc Lc cc, .slice pk l.length ck, .slice (some ⟨gd, od, none⟩) (l.length + 1) cd] 26)).heap.size (.slice none 0 0) [] (w3.alloc (.cells #[.int .u8 2] 5)) (.slice (some ⟨w3.heap.size, 0, none⟩) 1 1) [2]) := fun w3 b => RS.start (own_lits w3 (w.alloc (.cells #[.bool false, .slice pc Lc cc, .slice pk l.length ck, .slice (some ⟨gd, od, none⟩) (l.length + 1) cd] 26)).heap.size b.size [2] _ (by simp [bcells]) (by unfold maxLen; simp)) (BV.nil _ _) (Nat.le_trans b.size (by simp))
  have HL2 : Hid (∀ (w3 : World) (b : Below (w.alloc (.cells #[.bool false, .slice pc Lc cc, .slice pk l.length ck, .slice (some ⟨gd, od, none⟩) (l.length + 1) cd] 26)).heap.size (w.alloc (.cells #[.bool false, .slice pc Lc cc, .slice pk l.length ck, .slice (some ⟨gd, od, none⟩) (l.length + 1) cd] 26)) w3) (wx : World) (vx : Value) (lx : List UInt8), RS (w3.alloc (.cells #[.int .u8 2] 5)) (.slice (some ⟨w3.heap.size, 0, none⟩) 1 1) (w.alloc (.cells #[.bool false, .slice pc Lc cc, .slice pk l.length ck, .slice (some ⟨gd, od, none⟩) (l.length + 1) cd] 26)).heap.size (.slice none 0 0) [] wx vx lx → Below (w.alloc (.cells #[.bool false, .slice pc Lc cc, .slice pk l.length ck, .slice (some ⟨gd, od, none⟩) (l.length + 1) cd] 26)).heap.size (w.alloc (.cells #[.bool false, .slice pc Lc cc, .slice pk l.length ck, .slice (some ⟨gd, od, none⟩) (l.length + 1) cd] 26)) wx) := fun w3 b wx vx lx r => (b.alloc b.size _).trans (r.under (Nat.le_trans b.size (by simp)) (fun k hk => by simp only [Value.ownBlock, Option.some.injEq] at hk; have := b.size; omega))
  have HL3 : Hid (∀ w', Below (w.alloc (.cells #[.bool false, .slice pc Lc cc, .slice pk l.length ck, .slice (some ⟨gd, od, none⟩) (l.length + 1) cd] 26)).heap.size (w.alloc (.cells #[.bool false, .slice pc Lc cc, .slice pk l.length ck, .slice (some ⟨gd, od, none⟩) (l.length + 1) cd] 26)) w' → w'.cell? ⟨gd, od, none⟩ = some (.int .i64 (D : Int))) := fun w' b => HKd.out w' 0 (by simp) (HB0.out.trans (b.mono HB0.out.size))
  go_enter Try.func11, Try.ntmps11
  go_wp2_with (first
    | (go_at_call 15; with_reducible refine HA.out.mono ?_; rintro e w3 ⟨rfl, b3⟩; obtain ⟨x0, x2, x3⟩ := HX.out w3 b3; have hlt3 : w.heap.size < w3.heap.size := cell_lt x0; have R3 := HL1.out w3 b3; have HB3 := hid b3; clear b3)
    | (go_at_call 28; with_reducible refine (RS.two R3 l.length hn).mono ?_; rintro e w4 ⟨vt, rfl, R4, T4, _⟩; clear R3)
    | (at_builtin; refine RS.plain R4 T4 rfl rfl rfl rfl HLa.out ?_; intro v5 w5 R5; obtain ⟨p5, c5, hv5⟩ := R5.own.formN 3 rfl; subst hv5; have HB5 := hid (HL2.out w3 HB3.out w5 _ _ R5); obtain ⟨y0, y2, y3⟩ := HX.out w5 HB5.out; have yd := HL3.out w5 HB5.out; clear R4 T4 x0 x2 x3)
    | (go_at_call 28; with_reducible refine (RS.two R5 D HDD.out).mono ?_; rintro e w6 ⟨vu, rfl, R6, T6, _⟩; clear R5)
    | (at_builtin; refine RS.plain R6 T6 rfl rfl rfl rfl HLb.out ?_; intro v7 w7 R7; obtain ⟨p7, c7, hv7⟩ := R7.own.formN 5 rfl; subst hv7; have HB7 := hid (HL2.out w3 HB3.out w7 _ _ R7); have HO7 := hid R7.own; clear R6 T6 R7)
    | fail)
  generalize hW : w.alloc _ = W at *
  clear hW HL1 HL2 HL3 HB3 HB5 y0 y2 y3 yd HA hlt3
  go_loopw [5, 6] (fun b i wr => ∃ (k : Nat) (p : Option Addr) (c : Nat), b = .slice p (2 :: (le2 l.length ++ (le2 D ++ encKids (l.take k) (m.take k)))).length c ∧ i = .int .i64 (k : Int) ∧ k ≤ l.length ∧ OwnB wr W.heap.size (.slice p (2 :: (le2 l.length ++ (le2 D ++ encKids (l.take k) (m.take k)))).length c) (2 :: (le2 l.length ++ (le2 D ++ encKids (l.take k) (m.take k)))) ∧ Below W.heap.size W wr) (fun _ i _ => l.length - (RowKit.intOf i).toNat)
  case atStart => exact ⟨0, p7, c7, by simp [encKids, le2_len], rfl, Nat.zero_le _, by simpa [encKids, le2_len] using HO7.out, HB7.out⟩
  case round =>
    clear HO7 HB7
    obtain ⟨k, p0, c0, rfl, rfl, hk, hO, hB⟩ := hrel
    have HO := hid hO
    have HB := hid hB
    clear hO hB
    obtain ⟨x0, x2, x3⟩ := HX.out wr HB.out
    have HBw : Hid (Below w.heap.size w wr) := HB0.out.trans (HB.out.mono HB0.out.size)
    by_cases hx : k < l.length
    · obtain ⟨gk, off, p1, c1, rfl, c10, b1, hgk⟩ := (H.out.kp (Kp.of_below HBw.out)).get hx
      obtain ⟨hb1, _⟩ := b1.len
      have hxm : k < m.length := by have := HM.out; omega
      have hck : l[k].length ≤ 128 := of_decide_eq_true (List.all_eq_true.1 HOK.out _ (List.getElem_mem hx))
      have hpk : 2 ≤ m[k] ∧ m[k] < 4096 := by
        have := List.all_eq_true.1 HPG.out m[k] (List.mem_cons_of_mem _ (List.getElem_mem hxm))
        simpa [isPage] using this
      obtain ⟨N, hN⟩ : ∃ N : Nat, m[k] = (N : Int) := ⟨m[k].toNat, by omega⟩
      have hgd : gd < w.heap.size := cell_lt (HKd.out w 0 (by simp) (Below.refl _ _))
      have cd1 : wr.cell? ⟨gd, od + (k + 1), none⟩ = some (.int .i64 (N : Int)) := by
        have := HKd.out wr (k + 1) (by simpa using hxm) HBw.out
        simp only [List.getElem_cons_succ, hN] at this
        exact this
      have hlen : (2 :: (le2 l.length ++ (le2 D ++ encKids (l.take k) (m.take k)))).length + (3 + l[k].length) ≤ 508 := by
        have e1 := lenKeys_succ hx
        have e2 := lenKeys_take l (k + 1)
        have e3 := encKids_len (l.take k) (m.take k) (by simp; omega)
        simp only [List.length_cons, List.length_append, le2_len, e3]
        omega
      have hE := hid (encKids_succ hx hxm)
      generalize hpre : 2 :: (le2 l.length ++ (le2 D ++ encKids (l.take k) (m.take k))) = pre at *
      have HN : Hid (N < 65536) := by show _ < _; omega
      have hwr : IntKind.u8.wrap (l[k].length : Int) = (l[k].length : Int) := by rw [IntKind.wrap_u8]; omega
      have hwk : IntKind.i64.wrap ((k : Int) + 1) = (k : Int) + 1 := by rw [IntKind.wrap_i64]; omega
      have hk1 : ((k : Int) + 1).toNat = k + 1 := by omega
      have HC : Hid ((#[.int .u8 (l[k].length : Int)] : Array Value).toList = bcells [UInt8.ofNat l[k].length]) := by
        have e1 : (((UInt8.ofNat l[k].length).toNat : Nat) : Int) = (l[k].length : Int) := by simp <;> omega
        show _ = _
        simp only [bcells, List.map_cons, List.map_nil, e1]
      have HCm : Hid ([UInt8.ofNat l[k].length].length ≤ 1000) := by show _ ≤ _; simp
      have HOw : Hid (∀ j, j < W.heap.size → (Value.slice p0 pre.length c0).ownBlock ≠ some j) := fun j hj => own_old HO.out (Nat.le_of_eq rfl) j hj
      have hww : w.heap.size < W.heap.size := by have := HW0.out; omega
      have R := RS.start HO.out (b1.mono (fun j _ hj => HOw.out j (Nat.lt_trans hj hww))) HB.out.size
      have HL1 : Hid (pre.length + [UInt8.ofNat l[k].length].length ≤ 1000000) := by show _ ≤ _; simp; omega
      have HL2 : Hid ((pre ++ [UInt8.ofNat l[k].length]).length + l[k].length ≤ 1000000) := by show _ ≤ _; simp; omega
      have HL3 : Hid ((pre ++ [UInt8.ofNat l[k].length] ++ l[k]).length + (le2 N).length ≤ 1000000) := by show _ ≤ _; simp [le2_len]; omega
      have hfin : Hid (pre ++ [UInt8.ofNat l[k].length] ++ l[k] ++ le2 N = 2 :: (le2 l.length ++ (le2 D ++ encKids (l.take (k + 1)) (m.take (k + 1))))) := by
        show _ = _
        rw [hE.out, ← hpre, hN]
        simp [List.append_assoc]
      have HSs : Hid (∀ wx vx lx, RS wr (.slice p0 pre.length c0) W.heap.size (.slice p1 l[k].length c1) l[k] wx vx lx → wx.cell? ⟨w.heap.size, 2, none⟩ = some (.slice (some ⟨gk, off, none⟩) l.length ck) ∧ wx.cell? ⟨w.heap.size, 3, none⟩ = some (.slice (some ⟨gd, od, none⟩) (l.length + 1) cd) ∧ wx.cell? ⟨gk, off + k, none⟩ = some (.slice p1 l[k].length c1) ∧ wx.cell? ⟨gd, od + (k + 1), none⟩ = some (.int .i64 (N : Int))) := fun wx vx lx r => ⟨r.cell x2 (HOw.out _ hww), r.cell x3 (HOw.out _ hww), r.cell c10 (HOw.out _ (Nat.lt_trans hgk hww)), r.cell cd1 (HOw.out _ (Nat.lt_trans hgd hww))⟩
      clear b1 hE hpre hN hlen hpk
      have hkl : (k : Int) < (l.length : Int) := by omega
      have hkl2 : (k : Int) + 1 < (l.length : Int) + 1 := by omega
      have hkl3 : ¬ ((k : Int) + 1 < 0) := by omega
      have hkl4 : ¬ ((k : Int) < 0) := by omega
      go_wp2
      go_region_held_law (fun w' => w'.cell? ⟨w.heap.size, 2, none⟩ = some (.slice (some ⟨gk, off, none⟩) l.length ck) ∧ w'.cell? ⟨w.heap.size, 3, none⟩ = some (.slice (some ⟨gd, od, none⟩) (l.length + 1) cd) ∧ w'.cell? ⟨gk, off + k, none⟩ = some (.slice p1 l[k].length c1) ∧ w'.cell? ⟨gd, od + (k + 1), none⟩ = some (.int .i64 (N : Int))) (with_reducible first | exact HSs.out _ _ _ R | exact HSs.out _ _ _ R.drw | exact HSs.out _ _ _ (R.alc _) | exact HSs.out _ _ _ (R.drw.alc _) | exact HSs.out _ _ _ (R.alc _).drw)
        (first
          | (go_at_call 28; first | (with_reducible refine (RS.two R N HN.out).mono ?_; rintro e wn ⟨vt, rfl, R', T, _⟩; replace R := R'; clear R') | (with_reducible refine (RS.two R.drw N HN.out).mono ?_; rintro e wn ⟨vt, rfl, R', T, _⟩; replace R := R'; clear R') | (with_reducible refine (RS.twoL (R.alc _) N HN.out (RS.lit R [UInt8.ofNat l[k].length] _ HC.out HCm.out 1 _ rfl rfl)).mono ?_; rintro e wn ⟨vt, rfl, R', T, LT⟩; replace R := R'; clear R') | (with_reducible refine (RS.twoL (R.drw.alc _) N HN.out (RS.lit R.drw [UInt8.ofNat l[k].length] _ HC.out HCm.out 1 _ rfl rfl)).mono ?_; rintro e wn ⟨vt, rfl, R', T, LT⟩; replace R := R'; clear R') | (with_reducible refine (RS.twoL (R.alc _).drw N HN.out ((RS.lit R [UInt8.ofNat l[k].length] _ HC.out HCm.out 1 _ rfl rfl).below (below_drew _))).mono ?_; rintro e wn ⟨vt, rfl, R', T, LT⟩; replace R := R'; clear R'))
          | (first | (refine RS.step R LT rfl rfl rfl rfl HL1.out ?_; intro va wa R' P'; replace R := R'; clear R'; (try replace T := P' _ _ T); clear P'; clear LT) | (refine RS.step (R.alc _) (RS.lit R [UInt8.ofNat l[k].length] _ HC.out HCm.out 1 _ rfl rfl) rfl rfl rfl rfl HL1.out ?_; intro va wa R' P'; replace R := R'; clear R'; (try replace T := P' _ _ T); clear P') | (refine RS.step (R.drw.alc _) (RS.lit R.drw [UInt8.ofNat l[k].length] _ HC.out HCm.out 1 _ rfl rfl) rfl rfl rfl rfl HL1.out ?_; intro va wa R' P'; replace R := R'; clear R'; (try replace T := P' _ _ T); clear P') | (refine RS.step (R.alc _).drw ((RS.lit R [UInt8.ofNat l[k].length] _ HC.out HCm.out 1 _ rfl rfl).below (below_drew _)) rfl rfl rfl rfl HL1.out ?_; intro va wa R' P'; replace R := R'; clear R'; (try replace T := P' _ _ T); clear P') | (refine RS.step R R.key rfl rfl rfl rfl HL2.out ?_; intro va wa R' P'; replace R := R'; clear R'; (try replace T := P' _ _ T); clear P') | (refine RS.step R T rfl rfl rfl rfl HL3.out ?_; intro va wa R' P'; replace R := R'; clear R' P' T)))
      all_goals
        obtain ⟨p6, c6, hv6⟩ := R.own.formN _ rfl
        subst hv6
        have HR := hid R
        rw [hfin.out] at HR
        clear R
        go_wp2
        have R6 := HR.out
        have B6 := HB.out.trans (R6.under HB.out.size (fun j e => (HO.out.lt j e).1))
        go_roundw
        case rel => exact ⟨k + 1, p6, c6, by rw [← hfin.out]; simp only [List.length_append, List.length_cons, List.length_nil]; congr 1; omega, by go_num, by omega, R6.own, B6⟩
        case measure => simp [RowKit.intOf]; omega
    · obtain rfl : k = l.length := by omega
      have HO2 : Hid (OwnB wr W.heap.size (.slice p0 (2 :: (le2 l.length ++ (le2 D ++ encKids (l.take l.length) (m.take l.length)))).length c0) (2 :: (le2 l.length ++ (le2 D ++ encKids l m)))) := by have := HO.out; rw [List.take_length, List.take_of_length_le (by have := HM.out; omega)] at this ⊢; exact this
      have P := hid (pad_any W.heap.size _ _ wr HO2.out (by have := encKids_len l m HM.out; simp [le2_len]; omega) HB.out.size)
      unfold pdEnd at P
      clear HO HO2
      generalize (2 :: (le2 l.length ++ (le2 D ++ encKids (l.take l.length) (m.take l.length)))).length = ML at *
      go_wp2_with (first
        | (go_at_call 29; with_reducible refine P.out.mono ?_; rintro e w6 ⟨v6, rfl, O6, B6⟩; have HO6 := hid O6; have HB6 := hid B6; clear O6 B6)
        | fail)
      go_ret2
      exact ⟨HB0.out.trans ((HB.out.trans HB6.out).mono HB0.out.size), _, rfl, own_mono HO6.out HB0.out.size⟩

set_option maxHeartbeats 2000000 in
theorem rencode_any {F : Nat → Prop} (cv kv dv : Value) (n : Nd) (w : World) (h : NV w F cv kv dv n) :
    Calls Try.prog 11 #[.agg #[.bool n.leaf, cv, kv, dv]] w (ebEnd n w) := by
  have hN := h
  have hC := hid (fun w' (B : Below w.heap.size w w') => rcheck_any cv kv dv n w' (h.below B))
  by_cases he : n.err = 0
  · obtain ⟨⟨pc, cc, rfl, q1, _⟩, ⟨pk, ck, rfl, q2, _⟩, ⟨pd, cd, rfl, q3, _⟩⟩ := h
    obtain ⟨hf, hlen⟩ := (Nd.right_iff n).2 he
    rw [he] at hC
    rw [Nd.fields_eq] at hf
    have HE := he
    obtain ⟨lf, cells, keys, kids⟩ := n
    cases lf
    · simp only [Bool.false_eq_true, if_false, Nd.inn, Bool.and_eq_true, decide_eq_true_eq] at hf
      obtain ⟨h1, h2, h3, ⟨h4, h5⟩, h6⟩ := hf
      match kids, h3, h6, q3, hC, hlen, HE with
      | [], h3, _, _, _, _, _ => simp at h3
      | d :: m, h3, h6, q3, hC, hlen, HE =>
        have hm : m.length = keys.length := by simpa using h3
        have hk5 : 5 + lenKeys keys ≤ 508 := by simpa [Nd.len] using hlen
        have hkl : (d :: m).length = keys.length + 1 := by simpa using hm
        simp only [hkl] at hC ⊢
        refine (rencode_inner pc pk pd cc ck cd cells.length keys d m w q2 q3 hm h4 h6 hk5 hC.out).mono ?_
        rintro e w' ⟨B, v, he2, O⟩
        exact ⟨B, Or.inl ⟨HE, v, he2, O⟩⟩
    · simp only [if_true, Nd.lf, Bool.and_eq_true] at hf
      obtain ⟨h1, h2, h3, h4, h5⟩ := hf
      have hk3 : 3 + lenCells cells ≤ 508 := by simpa [Nd.len] using hlen
      refine (rencode_leaf pc pk pd cc ck cd keys.length kids.length cells ⟨true, cells, keys, kids⟩ w q1 h4 hk3 hC.out).mono ?_
      rintro e w' ⟨B, v, he2, O⟩
      exact ⟨B, Or.inl ⟨HE, v, he2, O⟩⟩
  · have HE := hid he
    obtain ⟨⟨pc, cc, rfl, _⟩, ⟨pk, ck, rfl, _⟩, ⟨pd, cd, rfl, _⟩⟩ := h
    have HB0 := hid (alloc_below w (.cells #[.bool n.leaf, .slice pc n.cells.length cc, .slice pk n.keys.length ck, .slice pd n.kids.length cd] 26))
    have A := hid (hC.out _ HB0.out)
    unfold ebEnd
    have heb : (n.err == 0) = false := beq_eq_false_iff_ne.2 he
    generalize n.load = ld at *
    generalize n.err = er at *
    clear hC hN
    go_enter Try.func11, Try.ntmps11
    go_wp2_with (first
      | (go_at_call 15; with_reducible refine A.out.mono ?_; rintro e w3 ⟨rfl, b3⟩; have HB3 := hid (HB0.out.trans (b3.mono HB0.out.size)); clear b3)
      | fail)
    go_ret2
    exact ⟨HB3.out, Or.inr ⟨HE.out, rfl⟩⟩
end Go.Proofs.Ytilmlegkkgiahaa
