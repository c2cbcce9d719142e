/- Texts DskU, DeskAfterLaw, GlobD, one behind the other. -/
import Derived.Deep.DeepCutAuto
import Derived.Test.YtbmhaamenjhjfaaGreatDoorRows
import Derived.LaidSub
import Derived.Stop.LaidTwo
import Derived.Lib.LaidTab
import Derived.ChangeVars
import Derived.OpenShut
import Derived.Shelf.Vars
import Derived.LaidMore
import Derived.Lay
import Derived.LaidLaws
import Derived.RowKitTokens
import Derived.Test.YtbmhaamenjhjfaaGreatDoorPkDeskAfterProof19
import Derived.Test.YtbmhaamenjhjfaaGreatDoorPkDeskAfterProof20
import Derived.Test.YtbmhaamenjhjfaaGreatDoorPkDeskAfterProof23
import Derived.Test.YtbmhaamenjhjfaaGreatDoorPkDeskAfterProof30
import Derived.Test.YtbmhaamenjhjfaaGreatDoorPkDeskAfterProof31
import Derived.Test.YtbmhaamenjhjfaaGreatDoorPkDeskAfterProof37
/- coOwn, coRun, DeskLine, RunScript and DeskAfter of the model. (by genmd.py) -/
namespace Go.Proofs.YtbmhaamenjhjfaaGreatDoor
open Go.RowKit Go.WideShapes Go.ChangeShapes
set_option linter.unusedVariables false
theorem coOwn_any (v : Value) (xs : List Int) (n : Int) (w : World) (hv : Ints w v xs) (hl : xs.length ≤ 1048576) :
    Calls Tryz.prog 30 #[.agg #[v, .int .i64 n]] w fun (r : Ending) w' => ∃ u, r = Ending.returned (.agg #[u, .int .i64 n]) ∧ OwnI 3 w' w.heap.size u xs ∧ Below w.heap.size w w' := by
  have HV := hid hv
  obtain ⟨A, c, rfl, -⟩ := hv
  obtain ⟨m, hm⟩ : ∃ m, xs.length = m := ⟨_, rfl⟩
  rw [hm] at HV ⊢
  have HZ := hid (CZ.new w (.slice A m c) n)
  clear hm
  go_enter Tryz.func30, Tryz.ntmps30
  go_upto_region 1 with (fail)
  generalize ((w.alloc (.cells #[.slice A m c, .int .i64 n] 30)).alloc (.cells #[.slice none 0 0, .int .i64 0] 30)) = W at HZ ⊢
  have hzW : w.heap.size + 2 ≤ W.heap.size := HZ.out.k1.lt
  have HZd := hid (show CZ w W.drew _ _ from HZ.out.below (below_drewN (Below.refl _ W) 1))
  have hdz : W.drew.heap.size = W.heap.size := rfl
  have k0 : W.cell? ⟨w.heap.size, 0, none⟩ = some (.slice A m c) := HZ.out.k0.cell 0
  have k1 : W.cell? ⟨w.heap.size, 1, none⟩ = some (.int .i64 n) := HZ.out.k0.cell 1
  go_region_with (first | (go_at_call 49; refine (l1Own_any _ xs _ (HV.out.below HZd.out.bel) hl).mono ?_; rintro e W2 ⟨q, rfl, ho, hb⟩; have HO := hid ho; obtain ⟨qA, qn, qc, rfl⟩ := ho.shape3; have HZ2 := hid (HZd.out.below hb); have g0 : W2.cell? ⟨w.heap.size, 0, none⟩ = some (.slice A m c) := HZ2.out.k0.cell 0; have g1 : W2.cell? ⟨w.heap.size, 1, none⟩ = some (.int .i64 n) := HZ2.out.k0.cell 1; have q0 : W2.cell? ⟨w.heap.size + 1, 0, none⟩ = some (.slice none 0 0) := HZ2.out.k1.cell 0; have q1 : W2.cell? ⟨w.heap.size + 1, 1, none⟩ = some (.int .i64 0) := HZ2.out.k1.cell 1; have y0 := HZ2.out.k1.frozen 0; have y1 := HZ2.out.k1.frozen 1; clear ho hb))
  all_goals
    go_wp2
    refine bodyPost_ret (v := .agg #[.slice qA qn qc, .int .i64 n]) (by simp [results, Tryz.results30, go_sem, q0, q1]) rfl ⟨_, rfl, ?_, ?_⟩
    · exact (own_setX (own_setX HO.out (by omega) 0 _) (by omega) 1 _).mono (by omega)
    · exact below_put2 HZ2.out.bel (w.heap.size + 1) (by omega) _ _
structure RmW (w2 : World) (B : Nat) (ls : List (List UInt8)) (k : Nat) (u : Value) (s : Int) (xs : List Int) (rv : Value) (wr : World) : Prop where
  box : Blk wr w2.heap.size 30 #[u, .int .i64 s]
  hx : (runD ls k).1 = xs
  hs : (runD ls k).2 = s
  own : OwnI 3 wr B u xs
  ne : ∀ j, u.ownBlock = some j → j ≠ w2.heap.size ∧ rv.ownBlock ≠ some j
  reps : StrOwn 9 wr (w2.heap.size + 1) rv (repsD ls k)
  bel : Below w2.heap.size w2 wr
theorem StrOwn.ownLt {ts : TypeId} {w : World} {B : Nat} {v : Value} {ls : List (List UInt8)} (h : StrOwn ts w B v ls) : ∀ k, v.ownBlock = some k → B ≤ k ∧ k < w.heap.size := World.ownsRow.lt h
theorem StrOwn.grownR {ts : TypeId} {w w' : World} {B : Nat} {v : Value} {ls : List (List UInt8)} {row : Option Nat} (h : StrOwn ts w B v ls) (hg : w.grownBy w' row) (hr : ∀ k, v.ownBlock = some k → row ≠ some k) : StrOwn ts w' B v ls := by
  refine World.ownsRow.kept h hg ?_
  cases hq : v.ownBlock with
  | none => exact .inl rfl
  | some k => exact .inr (fun e => hr k hq e.symm)
theorem StrOwn.away {ts : TypeId} {W : World} {B : Nat} {v : Value} {ls : List (List UInt8)} (h : StrOwn ts W B v ls) {g : Nat} (hg : ∀ k, v.ownBlock = some k → k ≠ g) (i : Nat) (y : Value) : StrOwn ts (W.setCell ⟨g, i, none⟩ y) B v ls :=
  h.grownR (grown_set W g i y) (fun k hk e => hg k hk (by injection e with e; exact e.symm))
theorem StrOwn.monoU {ts : TypeId} {w : World} {B B' : Nat} {v : Value} {ls : List (List UInt8)} (h : StrOwn ts w B v ls) (hB : B' ≤ B) : StrOwn ts w B' v ls := by
  obtain ⟨h1, h2⟩ := h
  refine ⟨h1, ?_⟩
  rcases h2 with h2 | ⟨g, cap, cur, rfl, hb, r⟩
  · exact .inl h2
  · exact .inr ⟨g, cap, cur, rfl, Nat.le_trans hB hb, r⟩
structure RmO (w2 W : World) (B h : Nat) (d0 d1 u : Value) (s : Int) (xs : List Int) (rv : Value) (rs : List (List UInt8)) : Prop where
  box : Blk W w2.heap.size 30 #[d0, d1]
  nxt : Blk W h 30 #[u, .int .i64 s]
  own : OwnI 3 W B u xs
  reps : StrOwn 9 W (w2.heap.size + 1) rv rs
  ne : ∀ j, u.ownBlock = some j → j ≠ w2.heap.size ∧ rv.ownBlock ≠ some j
  qlt : w2.heap.size < h
  bel : Below w2.heap.size w2 W
theorem RmO.desk {w2 W : World} {B h : Nat} {d0 d1 u : Value} {s : Int} {xs : List Int} {rv : Value} {rs : List (List UInt8)} (H : RmO w2 W B h d0 d1 u s xs rv rs) (y0 y1 : Value) : RmO w2 ((W.setCell ⟨w2.heap.size, 0, none⟩ y0).setCell ⟨w2.heap.size, 1, none⟩ y1) B h y0 y1 u s xs rv rs := by
  have hq := H.qlt
  have ha : ∀ k, rv.ownBlock = some k → k ≠ w2.heap.size := fun k hk => by have := (H.reps.ownLt k hk).1; omega
  exact ⟨(H.box.set_ 0 y0).set_ 1 y1, H.nxt.put2 (by omega) _ _, (H.own.away (fun k hk => (H.ne k hk).1) 0 y0).away (fun k hk => (H.ne k hk).1) 1 y1, (H.reps.away ha 0 y0).away ha 1 y1, H.ne, hq,
    (H.bel.setCell (p := ⟨w2.heap.size, 0, none⟩) (Nat.le_refl _) y0).setCell (p := ⟨w2.heap.size, 1, none⟩) (Nat.le_refl _) y1⟩
theorem RmO.next {w2 W w6 : World} {ls : List (List UInt8)} {B k h : Nat} {u : Value} {s : Int} {xs : List Int} {rv rv' : Value} {t : List UInt8} (H : RmO w2 W B h u (.int .i64 s) u s xs rv (repsD ls k)) (hx : (runD ls (k + 1)).1 = xs) (hs : (runD ls (k + 1)).2 = s) (hr : (repD ls k).1 = t)
    (h1 : StrOwn 9 w6 (w2.heap.size + 1) rv' (repsD ls k ++ [t])) (h2 : Below (w2.heap.size + 1) W w6) (h3 : Beside W w6 rv rv') : RmW w2 B ls (k + 1) u s xs rv' w6 := by
  have hb := h3 _ _ _ _ H.own (fun j hj => (H.ne j hj).2)
  refine ⟨(h2.block _ (Nat.lt_succ_self _)).trans H.box, hx, hs, hb.1, fun j hj => ⟨(H.ne j hj).1, hb.2 j hj⟩, ?_, H.bel.trans (h2.mono (Nat.le_succ _))⟩
  rw [repsD_succ, hr]; exact h1
set_option maxRecDepth 100000 in
set_option maxHeartbeats 1600000 in
theorem coRun_any (l : List UInt8) (w : World) (hs : l.length ≤ 1048576) :
    Calls Tryz.prog 40 #[.string (sB l)] w fun (r : Ending) w' =>
      ((okSc l = false ∧ r = .returned (.tuple #[.agg #[.slice none 0 0, .int .i64 0], .slice none 0 0, .bool false])) ∨
       (okSc l = true ∧ ∃ u rv, r = .returned (.tuple #[.agg #[u, .int .i64 (runD (lnsD l) (nlD l)).2], rv, .bool true]) ∧ OwnI 3 w' w.heap.size u (runD (lnsD l) (nlD l)).1 ∧ StrOwn 9 w' w.heap.size rv (repsD (lnsD l) (nlD l)))) ∧ Below w.heap.size w w' := by
  have HLp := hid (fun h k => lnsD_part (s := l) h k)
  have HZ := hid (Blk.new w 30 #[.slice none 0 0, .int .i64 0])
  have HB0 := hid (below_alloc (Below.refl _ w) (.cells #[.slice none 0 0, .int .i64 0] 30))
  have hsz := sB_size l
  have hnl := splitL_length 10 l
  have HEq : Hid (okSc l = (decide (l.length ≤ 3000) && (decide ((splitL 10 l).getD (nlD l) [] = []) && decide (nlD l ≤ 50)))) := hid rfl
  have hms := nlD_succ l
  rw [← hms] at hnl
  have HGt := hid (fun j (h : j < nlD l) => lnsD_getD h)
  have HSp := hid (fun W => l1SplitRow_any 10 10 rfl l W hs)
  obtain ⟨m, hm⟩ : ∃ m, nlD l = m := ⟨_, rfl⟩
  obtain ⟨ls, hls⟩ : ∃ ls, lnsD l = ls := ⟨_, rfl⟩
  rw [hls] at HLp
  simp only [hm, hls] at HEq hms hnl HGt ⊢
  obtain ⟨S, hS⟩ : ∃ S, sB l = S := ⟨_, rfl⟩
  rw [hS] at hsz HSp ⊢
  have HMs := hid hms
  clear hm hls hS hms
  go_enter Tryz.func40, Tryz.ntmps40
  by_cases h3 : l.length ≤ 3000
  · have hlt : ¬ (3000 : Int) < (S.size : Int) := by omega
    go_wp2_with fail
    refine (HSp.out _).mono ?_
    rintro e w1 ⟨b, n, cap, hn, rfl, hcap, hbl, hbw, hcell, hb⟩
    rw [← HMs.out] at hn
    subst hn
    have HZ1 := hid (HZ.out.below hb (by simp))
    have HB1 := hid (below_to HB0.out hb)
    have hz1 : w.heap.size < w1.heap.size := HZ1.out.lt
    have HC := hid hcell
    have cm := hcell m (by omega)
    have hmm : (((m + 1 : Nat) : Int)) = (m : Int) + 1 := by omega
    have hm1 : IntKind.i64.wrap ((((m + 1 : Nat) : Int)) - 1) = (m : Int) := by
      rw [show (((m + 1 : Nat) : Int)) - 1 = (m : Int) by omega]
      exact wrap_small _ (by omega) (by omega)
    clear hb hcell HZ HB0 HSp
    by_cases hx : (splitL 10 l).getD m [] = []
    · have he : (sB ((splitL 10 l).getD m [])).toList.isEmpty = true := by rw [hx, sB_toList]; rfl
      have HX := hid hx
      obtain ⟨X, hX⟩ : ∃ X, sB ((splitL 10 l).getD m []) = X := ⟨_, rfl⟩
      rw [hX] at cm he
      clear hX hx
      by_cases h50 : m ≤ 50
      · have h50' : ¬ (50 : Int) < (m : Int) := by omega
        have HOk : Hid (okSc l = true) := hid (by rw [HEq.out, decide_eq_true h3, decide_eq_true HX.out, decide_eq_true h50]; rfl)
        go_wp2_with fail
        clear cm
        refine (specFirstDesk_any _).mono ?_
        rintro e w2 ⟨u0, rfl, ho, -, hb⟩
        have HZ2 := hid (HZ1.out.below hb hz1)
        have HB2 := hid (below_to HB1.out hb)
        have hz2 : w.heap.size < w2.heap.size := HZ2.out.lt
        have hbl2 : b < w2.heap.size := Nat.lt_of_lt_of_le hbl hb.size
        have HC2 : Hid (∀ j, j < m → w2.cell? ⟨b, j, none⟩ = some (.string (sB (ls.getD j [])))) := hid (fun j hj => by rw [HGt.out j hj]; exact cell_later (HC.out j (by omega)) hb)
        have HO := hid ho
        obtain ⟨uA, un, uc, rfl⟩ := ho.shape3
        have HR0 : Hid (RmW w2 (w.heap.size + 1) ls 0 (.slice uA un uc) 0 (rectL 2 2) (.slice none 0 0) (w2.alloc (.cells #[.slice uA un uc, .int .i64 0] 30))) := hid ⟨Blk.new w2 _ _, rfl, rfl, World.ownsRow.alloc (OwnI.mono HO.out (by omega)) _, fun j hj => ⟨by have := (OwnI.blockLt HO.out j hj).2; omega, by simp [Value.ownBlock]⟩, StrOwn.nil _ _ _, below_alloc (Below.refl _ w2) _⟩
        clear ho hb HC HO HZ1 HB1
        go_wp2
        generalize (w2.alloc (.cells #[.slice uA un uc, .int .i64 0] 30)) = W2 at HR0 ⊢
        go_loopw [8, 37] (fun rv i wr => ∃ (k : Nat) (u : Value) (sv : Int) (xs : List Int), k ≤ m ∧ i = .int .i64 k ∧ RmW w2 (w.heap.size + 1) ls k u sv xs rv wr) (fun _ i _ => m - (intOf i).toNat)
        case atStart => exact ⟨0, _, _, _, Nat.zero_le _, rfl, HR0.out⟩
        case round =>
          obtain ⟨k, u, sv, xs, hk, rfl, hR⟩ := hrel
          have HE := hid hR
          have HPt := HLp.out HOk.out k
          obtain ⟨uA, un, uc, rfl⟩ := hR.own.shape3
          obtain ⟨oA, oc, rfl⟩ := hR.reps.shape3
          rw [repsD_length] at HE ⊢
          clear hR
          by_cases hlt2 : k < m
          · obtain ⟨t, ht⟩ : ∃ t, ls.getD k [] = t := ⟨_, rfl⟩
            have kc : wr.cell? ⟨b, k, none⟩ = some (.string (sB t)) := by rw [← ht]; exact (HE.out.bel.cell (p := ⟨b, k, none⟩) hbl2).trans (HC2.out k hlt2)
            have d0 := HE.out.box.cell 0
            have d1 := HE.out.box.cell 1
            rw [ht] at HPt
            have HSt : Hid (∀ X, stepD xs sv t = X → (runD ls (k + 1)).1 = X.1 ∧ (runD ls (k + 1)).2 = X.2.1 ∧ repD ls k = X.2.2) := hid (by
              rintro X rfl
              have h1 := HE.out.hx
              have h2 := HE.out.hs
              refine ⟨?_, ?_, ?_⟩
              · show (stepD (runD ls k).1 (runD ls k).2 (ls.getD k [])).1 = _; rw [h1, h2, ht]
              · show (stepD (runD ls k).1 (runD ls k).2 (ls.getD k [])).2.1 = _; rw [h1, h2, ht]
              · show (stepD (runD ls k).1 (runD ls k).2 (ls.getD k [])).2.2 = _; rw [h1, h2, ht])
            have HIk : Hid (okIdeal xs sv = true) := hid (by have := runD_ok ls k; rw [HE.out.hx, HE.out.hs] at this; exact this)
            clear ht
            go_wp2_with fail
            clear kc d0 d1
            refine (coStep_any _ xs sv t _ HE.out.own.ints HIk.out HPt).mono ?_
            rintro e w3 ⟨⟨v, rfl, hu⟩, hb3⟩
            obtain ⟨X, hX⟩ : ∃ X, stepD xs sv t = X := ⟨_, rfl⟩
            obtain ⟨xs', s', t', code⟩ := X
            obtain ⟨hx1, hx2, hx3⟩ := HSt.out _ hX
            rw [hX] at hu ⊢
            simp only at hx1 hx2 hx3 hu ⊢
            have HX1 := hid hx1
            have HX2 := hid hx2
            have HX3 : Hid ((repD ls k).1 = t') := hid (by rw [hx3])
            clear hX hx1 hx2 hx3 HSt
            have hwz : w.heap.size + 1 ≤ wr.heap.size := Nat.le_trans hz2 HE.out.bel.size
            have hqz : w2.heap.size < wr.heap.size := HE.out.box.lt
            have hrz : wr.heap.size ≤ w3.heap.size := hb3.size
            have HD3 := hid (HE.out.box.below hb3 HE.out.box.lt)
            have HO3 : Hid (StrOwn 9 w3 (w2.heap.size + 1) (.slice oA k oc) (repsD ls k)) := hid (HE.out.reps.below hb3)
            have hown : OwnI 3 w3 (w.heap.size + 1) v xs' ∧ ∀ j, v.ownBlock = some j → j ≠ w2.heap.size ∧ (Value.slice oA k oc).ownBlock ≠ some j := by
              rcases hu with ⟨rfl, rfl⟩ | hu
              · exact ⟨HE.out.own.below hb3, HE.out.ne⟩
              · refine ⟨hu.mono hwz, fun j hj => ?_⟩
                have h1 := OwnI.blockLt hu j hj
                exact ⟨by omega, fun e => by have := (HE.out.reps.ownLt j e).2; omega⟩
            have HU := hid hown.1
            have HNe := hid hown.2
            obtain ⟨vA, vn, vc, rfl⟩ := hown.1.shape3
            have HB3 := hid (HE.out.bel.trans (hb3.mono (by omega)))
            have HW : Hid (RmO w2 (w3.alloc (.cells #[.slice vA vn vc, .int .i64 s'] 30)) (w.heap.size + 1) w3.heap.size (.slice uA un uc) (.int .i64 sv) (.slice vA vn vc) s' xs' (.slice oA k oc) (repsD ls k)) := hid
              ⟨HD3.out.alloc _, Blk.new w3 _ _, World.ownsRow.alloc HU.out _, World.ownsRow.alloc HO3.out _, HNe.out, HD3.out.lt, below_alloc HB3.out _⟩
            clear hu hown hb3 HE
            go_upto_region 13 with (fail)
            obtain ⟨h, hh⟩ : ∃ h, w3.heap.size = h := ⟨_, rfl⟩
            rw [hh] at HW
            generalize w3.alloc (.cells #[.slice vA vn vc, .int .i64 s'] 30) = W3 at HW ⊢
            rw [hh]
            clear hh
            have n0 : W3.cell? ⟨h, 0, none⟩ = some (.slice vA vn vc) := HW.out.nxt.cell 0
            have n1 : W3.cell? ⟨h, 1, none⟩ = some (.int .i64 s') := HW.out.nxt.cell 1
            have d0 := HW.out.box.cell 0
            have d1 := HW.out.box.cell 1
            have f0 := HW.out.box.frozen 0
            have f1 := HW.out.box.frozen 1
            have HW5 := hid (HW.out.desk (.slice vA vn vc) (.int .i64 s'))
            go_upto_region 14 with (fail)
            generalize (W3.setCell ⟨w2.heap.size, 0, none⟩ (.slice vA vn vc)).setCell ⟨w2.heap.size, 1, none⟩ (.int .i64 s') = W5 at HW5 ⊢
            clear n0 n1 d0 d1 f0 f1
            have hz5 : w2.heap.size + 1 ≤ W5.heap.size := HW5.out.box.lt
            have HOO : Hid (StrOwn 9 W5 (w2.heap.size + 1) (.slice oA k oc) (repsD ls k)) := hid HW5.out.reps
            go_wp2_with (at_builtin; refine wpList_append_strB rfl _ _ 37 9 rfl Tryz.underlying37 Tryz.info9 (w2.heap.size + 1) _ (repsD ls k) t' rfl HOO.out rfl rfl (by rw [repsD_length]; omega) hz5 ?_; rintro q6 w6 ho6 hb6 hbs6)
            have hfin := HW5.out.next HX1.out HX2.out HX3.out ho6 hb6 hbs6
            go_roundw
            case rel => exact ⟨k + 1, _, _, _, by omega, by go_num, hfin⟩
            case measure => simp [intOf] <;> omega
          · obtain rfl : k = m := by omega
            have z0 : wr.cell? ⟨w.heap.size, 0, none⟩ = some (.slice none 0 0) := (HE.out.bel.cell (p := ⟨w.heap.size, 0, none⟩) hz2).trans (HZ2.out.cell 0)
            have z1 : wr.cell? ⟨w.heap.size, 1, none⟩ = some (.int .i64 0) := (HE.out.bel.cell (p := ⟨w.heap.size, 1, none⟩) hz2).trans (HZ2.out.cell 1)
            have HZw := hid (show Blk wr w.heap.size 30 #[.slice none 0 0, .int .i64 0] from (HE.out.bel.block _ hz2).trans HZ2.out)
            have y0 := HZw.out.frozen 0
            have y1 := HZw.out.frozen 1
            have d0 := HE.out.box.cell 0
            have d1 := HE.out.box.cell 1
            have hx := HE.out.hx
            have hs2 := HE.out.hs
            have HX := hid hx
            have HS := hid hs2
            clear hx hs2
            go_wp2
            refine bodyPost_ret (v := .tuple #[.agg #[.slice uA un uc, .int .i64 sv], .slice oA k oc, .bool true]) (by simp [results, Tryz.results40, go_sem, z0, z1]) rfl ⟨.inr ⟨HOk.out, _, _, by rw [HS.out], ?_, ?_⟩, ?_⟩
            · rw [HX.out]
              exact ((HE.out.own.away (fun j hj => by have := (OwnI.blockLt HE.out.own j hj).1; omega) 0 _).away (fun j hj => by have := (OwnI.blockLt HE.out.own j hj).1; omega) 1 _).mono (by omega)
            · exact ((HE.out.reps.away (fun j hj => by have := (HE.out.reps.ownLt j hj).1; omega) 0 _).away (fun j hj => by have := (HE.out.reps.ownLt j hj).1; omega) 1 _).monoU (by omega)
            · exact below_put2 (HB2.out.trans (HE.out.bel.mono (by omega))) _ (Nat.le_refl _) _ _
      · have h50' : (50 : Int) < (m : Int) := by omega
        have HOk : Hid (okSc l = false) := hid (by rw [HEq.out, decide_eq_false h50]; simp)
        have z0 : w1.cell? ⟨w.heap.size, 0, none⟩ = some (.slice none 0 0) := HZ1.out.cell 0
        have z1 : w1.cell? ⟨w.heap.size, 1, none⟩ = some (.int .i64 0) := HZ1.out.cell 1
        have y0 := HZ1.out.frozen 0
        have y1 := HZ1.out.frozen 1
        go_wp2
        refine bodyPost_ret (v := .tuple #[.agg #[.slice none 0 0, .int .i64 0], .slice none 0 0, .bool false]) (by simp [results, Tryz.results40, go_sem, z0, z1]) rfl ⟨.inl ⟨HOk.out, rfl⟩, ?_⟩
        exact below_put2 HB1.out _ (Nat.le_refl _) _ _
    · have he : (sB ((splitL 10 l).getD m [])).toList.isEmpty = false := by
        rw [sB_toList]
        cases h : (splitL 10 l).getD m [] with
        | nil => exact absurd h hx
        | cons a r => rfl
      have HOk : Hid (okSc l = false) := hid (by rw [HEq.out, decide_eq_false hx]; simp)
      obtain ⟨X, hX⟩ : ∃ X, sB ((splitL 10 l).getD m []) = X := ⟨_, rfl⟩
      rw [hX] at cm he
      clear hX hx
      have z0 : w1.cell? ⟨w.heap.size, 0, none⟩ = some (.slice none 0 0) := HZ1.out.cell 0
      have z1 : w1.cell? ⟨w.heap.size, 1, none⟩ = some (.int .i64 0) := HZ1.out.cell 1
      have y0 := HZ1.out.frozen 0
      have y1 := HZ1.out.frozen 1
      go_wp2
      refine bodyPost_ret (v := .tuple #[.agg #[.slice none 0 0, .int .i64 0], .slice none 0 0, .bool false]) (by simp [results, Tryz.results40, go_sem, z0, z1]) rfl ⟨.inl ⟨HOk.out, rfl⟩, ?_⟩
      exact below_put2 HB1.out _ (Nat.le_refl _) _ _
  · have hlt : (3000 : Int) < (S.size : Int) := by omega
    have HOk : Hid (okSc l = false) := hid (by rw [HEq.out, decide_eq_false h3]; rfl)
    have HZ1 := HZ
    have HB1 := HB0
    have z0 : (w.alloc (.cells #[.slice none 0 0, .int .i64 0] 30)).cell? ⟨w.heap.size, 0, none⟩ = some (.slice none 0 0) := HZ1.out.cell 0
    have z1 : (w.alloc (.cells #[.slice none 0 0, .int .i64 0] 30)).cell? ⟨w.heap.size, 1, none⟩ = some (.int .i64 0) := HZ1.out.cell 1
    have y0 := HZ1.out.frozen 0
    have y1 := HZ1.out.frozen 1
    go_wp2
    refine bodyPost_ret (v := .tuple #[.agg #[.slice none 0 0, .int .i64 0], .slice none 0 0, .bool false]) (by simp [results, Tryz.results40, go_sem, z0, z1]) rfl ⟨.inl ⟨HOk.out, rfl⟩, ?_⟩
    exact HB1.out
theorem specDeskAfter_any (l : List UInt8) (w : World) (hs : l.length ≤ 1048576) :
    Calls Tryz.prog 19 #[.string (sB l)] w fun (r : Ending) w' => ∃ u, r = Ending.returned (.tuple #[.agg #[u, .int .i64 (daS l)], .bool (okSc l)]) ∧ OwnI 3 w' w.heap.size u (daX l) ∧ (daX l).length ≤ 1048576 ∧ Below w.heap.size w w' := by
  have HZ := hid (Blk.new w 30 #[.slice none 0 0, .int .i64 0])
  have HB0 := hid (below_alloc (Below.refl _ w) (.cells #[.slice none 0 0, .int .i64 0] 30))
  have HNo := hid (da_no (l := l))
  have HYes := hid (da_yes (l := l))
  have HL := hid (daX_len l)
  go_enter Tryz.func19, Tryz.ntmps19
  go_wp2_with fail
  refine (coRun_any l _ hs).mono ?_
  rintro e w1 ⟨hr, hb⟩
  have HZ1 := hid (HZ.out.below hb (by simp))
  have HB1 := hid (below_to HB0.out hb)
  have hz1 : w.heap.size < w1.heap.size := HZ1.out.lt
  clear hb HZ HB0
  rcases hr with ⟨hok, rfl⟩ | ⟨hok, u, rv, rfl, ho, hrv⟩
  · have HOk := hid hok
    have HZ2 := hid (HZ1.out.alloc (.cells #[.slice none 0 0, .int .i64 0] 30))
    have HB2 := hid (below_alloc HB1.out (.cells #[.slice none 0 0, .int .i64 0] 30))
    clear hok
    go_upto_region 2 with (fail)
    generalize w1.alloc (.cells #[.slice none 0 0, .int .i64 0] 30) = W at HZ2 HB2 ⊢
    have z0 : W.cell? ⟨w.heap.size, 0, none⟩ = some (.slice none 0 0) := HZ2.out.cell 0
    have z1 : W.cell? ⟨w.heap.size, 1, none⟩ = some (.int .i64 0) := HZ2.out.cell 1
    have y0 := HZ2.out.frozen 0
    have y1 := HZ2.out.frozen 1
    go_wp2
    refine bodyPost_ret (v := .tuple #[.agg #[.slice none 0 0, .int .i64 0], .bool false]) (by simp [results, Tryz.results19, go_sem, z0, z1]) rfl ⟨.slice none 0 0, by rw [HOk.out, (HNo.out HOk.out).2], by rw [(HNo.out HOk.out).1]; exact OwnI.nil _ _ _, HL.out, ?_⟩
    exact below_put2 HB2.out _ (Nat.le_refl _) _ _
  · have HOk := hid hok
    have HO := hid ho
    have hlen := HL.out
    rw [(HYes.out hok).1] at hlen
    obtain ⟨uA, un, uc, rfl⟩ := ho.shape3
    obtain ⟨rA, rc, rfl⟩ := hrv.shape3
    obtain ⟨S, hS⟩ : ∃ S, (runD (lnsD l) (nlD l)).2 = S := ⟨_, rfl⟩
    have HS := hid hS
    rw [hS]
    have HZ2 := hid (HZ1.out.alloc (.cells #[.slice uA un uc, .int .i64 S] 30))
    have HK := hid (Blk.new w1 30 #[.slice uA un uc, .int .i64 S])
    have HB2 := hid (below_alloc HB1.out (.cells #[.slice uA un uc, .int .i64 S] 30))
    have HO2 := hid (OwnI.below HO.out (below_alloc (Below.refl _ w1) (.cells #[.slice uA un uc, .int .i64 S] 30)))
    clear ho hrv hok hS
    go_upto_region 2 with (fail)
    generalize w1.alloc (.cells #[.slice uA un uc, .int .i64 S] 30) = W at HZ2 HK HB2 HO2 ⊢
    have k0 : W.cell? ⟨w1.heap.size, 0, none⟩ = some (.slice uA un uc) := HK.out.cell 0
    have k1 : W.cell? ⟨w1.heap.size, 1, none⟩ = some (.int .i64 S) := HK.out.cell 1
    go_wp2_with fail
    clear k0 k1
    refine (coOwn_any _ _ S _ HO2.out.ints hlen).mono ?_
    rintro e w3 ⟨q, rfl, ho, hb⟩
    have HZ3 := hid (HZ2.out.below hb HZ2.out.lt)
    have HB3 := hid (below_to HB2.out hb)
    have hWz : w.heap.size < W.heap.size := HZ2.out.lt
    have HO3 := hid ho
    obtain ⟨qA, qn, qc, rfl⟩ := ho.shape3
    clear ho hb
    have z0 : w3.cell? ⟨w.heap.size, 0, none⟩ = some (.slice none 0 0) := HZ3.out.cell 0
    have z1 : w3.cell? ⟨w.heap.size, 1, none⟩ = some (.int .i64 0) := HZ3.out.cell 1
    have y0 := HZ3.out.frozen 0
    have y1 := HZ3.out.frozen 1
    go_wp2
    refine bodyPost_ret (v := .tuple #[.agg #[.slice qA qn qc, .int .i64 S], .bool true]) (by simp [results, Tryz.results19, go_sem, z0, z1]) rfl ⟨.slice qA qn qc, by rw [HOk.out, (HYes.out HOk.out).2, HS.out], ?_, HL.out, ?_⟩
    · rw [(HYes.out HOk.out).1]; exact (own_setX (own_setX HO3.out hWz 0 _) hWz 1 _).mono (by omega)
    · exact below_put2 HB3.out _ (Nat.le_refl _) _ _
end Go.Proofs.YtbmhaamenjhjfaaGreatDoor

/- FnExactDeskAfter: the law's walk (by genlaw.py). -/
namespace Go.Proofs.YtbmhaamenjhjfaaGreatDoor.lawDeskAfter
open Go.RowKit Go.WideShapes Go.ChangeShapes
set_option linter.unusedVariables false
set_option maxRecDepth 100000 in
set_option maxHeartbeats 8000000 in
theorem walk {a0 a1 : Addr} (s0 : ByteArray) (w : World) (hs0 : s0.size ≤ maxLen) (hG : GlobD w a0 a1) :
    Calls Tryz.prog 5 #[.string s0] w fun e w' => e = .returned (.bool true) ∧ Below w.heap.size w w' := by
  by_cases hbig : 1048576 < s0.size
  · have hbI : (1048576 : Int) < (s0.size : Int) := by omega
    clear hG
    go_enter Tryz.func5, Tryz.ntmps5
    go_wp2
    go_ret
    exact ⟨rfl, Below.refl _ _⟩
  have hbI : ¬ (1048576 : Int) < (s0.size : Int) := by omega
  have HG := hid hG
  clear hG
  obtain ⟨l, rfl⟩ : ∃ l, s0 = sB l := ⟨s0.data.toList, (sB_of s0).symm⟩
  have hll : l.length ≤ 1048576 := by rw [sB_size] at hbig; omega
  have HS := hid (fun W => specDeskAfter_any l W hll)
  have HI := hid (fun W (hW : GlobD W a0 a1) => implDeskAfter_any l W hW hll)
  obtain ⟨S, hS⟩ : ∃ S, sB l = S := ⟨_, rfl⟩
  obtain ⟨X, hX⟩ : ∃ X, daX l = X := ⟨_, rfl⟩
  obtain ⟨D, hD⟩ : ∃ D, daS l = D := ⟨_, rfl⟩
  obtain ⟨b, hb⟩ : ∃ b, okSc l = b := ⟨_, rfl⟩
  simp only [hS, hX, hD, hb] at HS HI hbI ⊢
  clear hs0 hbig hll hS hX hD hb
  go_enter Tryz.func5, Tryz.ntmps5
  go_wp2_with fail
  refine (HS.out _ ).mono ?_
  rintro e w_1 ⟨u3, rfl, ho4, hl5, hb2⟩
  have G6 := hid (below_to (Below.refl _ w) hb2)
  have Z7 := hid (show w.heap.size + 0 ≤ w_1.heap.size by have := hb2.size; first | omega | (simp at this; omega))
  have hn8 := ho4
  have HL9 := hid hl5
  obtain ⟨u3A, u3n, u3c, rfl⟩ := hn8.shape3
  have U10 := hid (OwnI.blockLt hn8)
  have F11 := hid hn8
  clear hb2 hn8 ho4 hl5
  go_wp2_with fail
  refine (HI.out _ (HG.out.later (below_alloc G6.out _)) ).mono ?_
  rintro e w_12 ⟨u14, rfl, ho15, hl16, hb13⟩
  have F17 := hid ((F11.out.alloc _).below hb13)
  have F18 := hid ((At2.new w_1 (Value.slice u3A u3n u3c) (.int .i64 (D)) 30).below hb13)
  have G19 := hid (below_to (below_alloc G6.out _) hb13)
  have Z20 := hid (show w_1.heap.size + 1 ≤ w_12.heap.size by have := hb13.size; first | omega | (simp at this; omega))
  have hn21 : OwnI 3 w_12 (w_1.heap.size + 1) u14 X := by simpa using ho15
  have HL22 := hid hl16
  obtain ⟨u14A, u14n, u14c, rfl⟩ := hn21.shape3
  have U23 := hid (OwnI.blockLt hn21)
  have F24 := hid hn21
  clear F11 G6 hb13 hn21 ho15 hl16
  have e25 := F18.out.1
  have e25z := F18.out.2.1
  have e25y := F18.out.2.2
  go_wp2_with fail
  clear e25 e25z e25y
  refine (eqDesk_any _ _ (X) (D) _ (F24.out.alloc _).ints (F17.out.alloc _).ints HL22.out).mono ?_
  rintro e w_26 ⟨rfl, hb27⟩
  have F28 := hid ((F17.out.alloc _).below hb27)
  have F29 := hid ((F18.out.alloc _).below hb27)
  have F30 := hid ((F24.out.alloc _).below hb27)
  have F31 := hid ((At2.new w_12 (Value.slice u14A u14n u14c) (.int .i64 (D)) 30).below hb27)
  have G32 := hid (below_to (below_alloc G19.out _) hb27)
  have Z33 := hid (show w_12.heap.size + 1 ≤ w_26.heap.size by have := hb27.size; first | omega | (simp at this; omega))
  clear F17 F18 F24 G19 hb27
  have e34 := F29.out.1
  have e34z := F29.out.2.1
  have e34y := F29.out.2.2
  have e35 := F31.out.1
  have e35z := F31.out.2.1
  have e35y := F31.out.2.2
  go_wp2_with fail
  clear e34 e34z e34y e35 e35z e35y
  refine (markDesk_any _ (X) _ _ _ _ F30.out HL22.out (by omega) (by first | omega | (have := HL22.out; omega))).mono ?_
  rintro e w_36 ⟨rfl, ho37, hg38⟩
  have qZ7 := Z7.out
  have qZ20 := Z20.out
  have qZ33 := Z33.out
  have F39 := hid (F28.out.grown hg38 (row_ne_row (U10.out) (U23.out) (by omega)))
  have F40 := hid (F29.out.grown hg38 (row_ne_box (U23.out) (by omega)))
  have F41 := hid (F31.out.grown hg38 (row_ne_box (U23.out) (by omega)))
  have G42 := hid (below_grown G32.out hg38 (fun k hk => by have := U23.out k hk; omega))
  have Z43 := hid (show w_26.heap.size + 0 ≤ w_36.heap.size by have := hg38.size; first | omega | (simp at this; omega))
  clear qZ7 qZ20 qZ33
  have F44 := hid ho37
  clear F28 F29 F31 G32 F30 ho37 hg38
  have e45 := F40.out.1
  have e45z := F40.out.2.1
  have e45y := F40.out.2.2
  have e46 := F41.out.1
  have e46z := F41.out.2.1
  have e46y := F41.out.2.2
  go_wp2_with fail
  clear e45 e45z e45y e46 e46z e46y
  refine (heldDesk_any _ _ _ _ _ F44.out.ints HL22.out (by omega) (by omega)).mono ?_
  rintro e w_47 ⟨rfl, hb48⟩
  have F49 := hid (F39.out.below hb48)
  have F50 := hid (F40.out.below hb48)
  have F51 := hid (F41.out.below hb48)
  have F52 := hid (F44.out.below hb48)
  have G53 := hid (below_to G42.out hb48)
  have Z54 := hid (show w_36.heap.size + 0 ≤ w_47.heap.size by have := hb48.size; first | omega | (simp at this; omega))
  clear F39 F40 F41 F44 G42 hb48
  have e55 := F50.out.1
  have e55z := F50.out.2.1
  have e55y := F50.out.2.2
  have e56 := F51.out.1
  have e56z := F51.out.2.1
  have e56y := F51.out.2.2
  go_wp2_with fail
  clear e55 e55z e55y e56 e56z e56y
  refine (HI.out _ (HG.out.later G53.out) ).mono ?_
  rintro e w_57 ⟨u59, rfl, ho60, hl61, hb58⟩
  have F62 := hid (F49.out.below hb58)
  have F63 := hid (F50.out.below hb58)
  have F64 := hid (F51.out.below hb58)
  have F65 := hid (F52.out.below hb58)
  have G66 := hid (below_to G53.out hb58)
  have Z67 := hid (show w_47.heap.size + 0 ≤ w_57.heap.size by have := hb58.size; first | omega | (simp at this; omega))
  have hn68 := ho60
  have HL69 := hid hl61
  obtain ⟨u59A, u59n, u59c, rfl⟩ := hn68.shape3
  have U70 := hid (OwnI.blockLt hn68)
  have F71 := hid hn68
  clear F49 F50 F51 F52 G53 hb58 hn68 ho60 hl61
  have e72 := F63.out.1
  have e72z := F63.out.2.1
  have e72y := F63.out.2.2
  have e73 := F64.out.1
  have e73z := F64.out.2.1
  have e73y := F64.out.2.2
  go_wp2_with fail
  clear e72 e72z e72y e73 e73z e73y
  refine (eqDesk_any _ _ (X) (D) _ (F71.out.alloc _).ints (F62.out.alloc _).ints HL69.out).mono ?_
  rintro e w_74 ⟨rfl, hb75⟩
  have F76 := hid ((F62.out.alloc _).below hb75)
  have F77 := hid ((F63.out.alloc _).below hb75)
  have F78 := hid ((F64.out.alloc _).below hb75)
  have F79 := hid ((F65.out.alloc _).below hb75)
  have F80 := hid ((F71.out.alloc _).below hb75)
  have F81 := hid ((At2.new w_57 (Value.slice u59A u59n u59c) (.int .i64 (D)) 30).below hb75)
  have G82 := hid (below_to (below_alloc G66.out _) hb75)
  have Z83 := hid (show w_57.heap.size + 1 ≤ w_74.heap.size by have := hb75.size; first | omega | (simp at this; omega))
  clear F62 F63 F64 F65 F71 G66 hb75
  have e84 := F77.out.1
  have e84z := F77.out.2.1
  have e84y := F77.out.2.2
  have e85 := F78.out.1
  have e85z := F78.out.2.1
  have e85y := F78.out.2.2
  have e86 := F81.out.1
  have e86z := F81.out.2.1
  have e86y := F81.out.2.2
  go_wp2_with fail
  clear e84 e84z e84y e85 e85z e85y e86 e86z e86y
  refine (heldDesk_any _ _ _ _ _ F79.out.ints HL22.out (by omega) (by omega)).mono ?_
  rintro e w_87 ⟨rfl, hb88⟩
  have F89 := hid (F76.out.below hb88)
  have F90 := hid (F77.out.below hb88)
  have F91 := hid (F78.out.below hb88)
  have F92 := hid (F79.out.below hb88)
  have F93 := hid (F80.out.below hb88)
  have F94 := hid (F81.out.below hb88)
  have G95 := hid (below_to G82.out hb88)
  have Z96 := hid (show w_74.heap.size + 0 ≤ w_87.heap.size by have := hb88.size; first | omega | (simp at this; omega))
  clear F76 F77 F78 F79 F80 F81 G82 hb88
  go_wp2
  go_ret
  exact ⟨rfl, G95.out⟩
end Go.Proofs.YtbmhaamenjhjfaaGreatDoor.lawDeskAfter

/- What the console's contracts ask of the variables, out of a row's cell 'laid'; two variables read behind a call as before. -/
namespace Go.Proofs.YtbmhaamenjhjfaaGreatDoor
open Go.RowKit Go.WideShapes Go.ChangeShapes
set_option linter.unusedVariables false
theorem laid_tail {P : Program} {x : String × DataW Unit} {r : List (String × DataW Unit)} {W : World} (h : laidMet P (x :: r) W) : laidMet P r W := by
  obtain ⟨ps, hl, hnd, hrows⟩ := h
  obtain ⟨g, t, cs, fuel, p, q, e1, e2, e3, e4, hr, rfl⟩ := hl
  exact ⟨q, hr, hnd.sublist (List.sublist_append_right _ _), fun b off hp => hrows b off (List.mem_append.2 (.inr hp))⟩
theorem trod_ifaceD {P : Program} {w : World} {b fuel : Nat} {sp : Nat → Bool} {t : TypeId} {cs : List Value} {nm : String} {dd : DataW Unit} {p : List MemPlace}
    (hu : (match P.underlying t with | some (.interface _) => true | _ => false) = true) (h : DataW.trod (fun _ => ()) P w b sp false fuel t cs = some (.iface nm dd, p)) : ∃ u v, cs = [.iface u v] := by
  cases fuel with
  | zero => simp [DataW.trod] at h
  | succ fuel =>
    unfold DataW.trod at h
    split at h <;> first | exact ⟨_, _, rfl⟩ | simp_all
theorem starE : "*" ++ "errors.errorString" = "*errors.errorString" := by decide
theorem row_errorString (u : TypeId) (h : Tryz.prog.typeName? 3 u = some "*errors.errorString") : u = 269 :=
  typeName_ptr_named (nm := "errors.errorString") (by rw [starE]; kernel_rfl) (by kernel_rfl) (by decide) u (by rw [starE]; exact h)
theorem globD_of {W : World} {x0 x1 x3 : String × DataW Unit} {r : List (String × DataW Unit)} (hs : W.ShapedOpen Tryz.prog)
    (h : laidMet Tryz.prog (x0 :: x1 :: ("internal/strconv.uint64pow10", Rows.laid_internal_strconv_uint64pow10) :: x3 :: ("strconv.ErrRange", Rows.laid_strconv_ErrRange) :: ("strconv.ErrSyntax", Rows.laid_strconv_ErrSyntax) :: ("loop.example/g01138/impl.errWhat", Rows.laid_loop_example_g01138_impl_errWhat) :: ("loop.example/g01138/impl.errNo", Rows.laid_loop_example_g01138_impl_errNo) :: r) W) :
    ∃ a0 a1, GlobD W a0 a1 := by
  have h2 := laid_tail (laid_tail h)
  have h4 := laid_tail (laid_tail h2)
  have h5 := laid_tail h4
  have h6 := laid_tail h5
  have e10 : (Rows.laid_internal_strconv_uint64pow10 : DataW Unit) = Lib.tabData .u64 Lib.pow10Tab := by kernel_rfl
  rw [e10] at h2
  have htab : Lib.TabIs Tryz.prog W "internal/strconv.uint64pow10" .u64 Lib.pow10Tab :=
    Lib.tabIs_of_head (g := 6) (by kernel_rfl) (by kernel_rfl) (P := Tryz.prog) Tryz.underlying262 Tryz.underlying247 (by kernel_rfl) (by kernel_rfl) h2
  obtain ⟨-, ⟨gr, tr, cr, fr, pr, qr, hgr, htr, hvr, hdr, -⟩, -⟩ := h4
  obtain ⟨-, ⟨gs, ts, cs, fs, ps, qs, hgs, hts, hvs, hds, -⟩, -⟩ := h5
  obtain rfl := Option.some.inj ((show Tryz.prog.globalNamed "strconv.ErrRange" = some 5 by kernel_rfl).symm.trans hgr)
  obtain rfl := Option.some.inj ((show Tryz.prog.globalNamed "strconv.ErrSyntax" = some 4 by kernel_rfl).symm.trans hgs)
  obtain rfl := Option.some.inj ((show (Tryz.prog.globals[5]?).map (·.type) = some 58 by kernel_rfl).symm.trans htr)
  obtain rfl := Option.some.inj ((show (Tryz.prog.globals[4]?).map (·.type) = some 58 by kernel_rfl).symm.trans hts)
  obtain ⟨ur, vr, er⟩ := trod_ifaceD (by kernel_rfl) hdr
  obtain ⟨us, vs, es⟩ := trod_ifaceD (by kernel_rfl) hds
  obtain ⟨a0, a1, s0, s1, c0, c1, t0, t1, hw, hn, -, -, -, -, -, -, hne, hb0, hb1⟩ := laid_sentinels2 (g0 := 0) (g1 := 1) (ti := 58) (tp := 269) (te := 271) (ts := 9) h6 (by kernel_rfl) (by kernel_rfl) (by kernel_rfl) (by kernel_rfl) Tryz.underlying58 row_errorString Tryz.underlying269 Tryz.underlying271 rfl rfl Tryz.underlying9 (by kernel_rfl) (by kernel_rfl)
  refine ⟨a0, a1, ⟨cell_of_shapedOpen_int (t := 3) (zero := #[.int .i64 0]) hs (of_decide_eq_true (by kernel_rfl)) (by kernel_rfl) rfl (by kernel_rfl) (by kernel_rfl) (by kernel_rfl), ⟨_, ?_, .inr ⟨us, vs, rfl⟩⟩, ⟨_, ?_, .inr ⟨ur, vr, rfl⟩⟩⟩, htab, ?_, ?_, hne, ⟨c0, t0, hb0⟩, ⟨c1, t1, hb1⟩⟩
  · rw [World.var?_cell hgs hvs 0, ← Array.getElem?_toList, es]; rfl
  · rw [World.var?_cell hgr hvr 0, ← Array.getElem?_toList, er]; rfl
  · rw [World.var?_cell (show Tryz.prog.globalNamed "loop.example/g01138/impl.errWhat" = some 0 by kernel_rfl) hw 0]; rfl
  · rw [World.var?_cell (show Tryz.prog.globalNamed "loop.example/g01138/impl.errNo" = some 1 by kernel_rfl) hn 0]; rfl
theorem var_stays {P : Program} {W W' : World} {n : String} {g : Nat} {cs : Array Value} (hg : P.globalNamed n = some g) (hv : W.var? P n = some cs) (hb : Below W.heap.size W W') : W'.var? P n = some cs := by
  have hlt : g < W.heap.size := by
    rcases Nat.lt_or_ge g W.heap.size with h | h
    · exact h
    · simp only [World.var?, hg, Option.bind_some] at hv
      rw [Array.getElem?_eq_none h] at hv
      cases hv
  simp only [World.var?, hg, Option.bind_some] at hv ⊢
  rw [hb.block g hlt]
  exact hv
theorem vars_stay {H : Type} {enc : TypeId × Value → H} {W W' : World} {gs : List (DataW H)} {q : List MemPlace} (h : DataW.TrodVars enc Tryz.prog W (fun _ => true) ["loop.example/g01138/impl.errWhat", "loop.example/g01138/impl.errNo"] gs q) (hb : Below W.heap.size W W') (sp : Nat → Bool) :
    DataW.TrodVars enc Tryz.prog W' sp ["loop.example/g01138/impl.errWhat", "loop.example/g01138/impl.errNo"] gs q := by
  obtain ⟨g0, t0, cs0, f0, d0, p0, g1, t1, cs1, f1, d1, p1, rfl, h1, h2, h3, h4, k1, k2, k3, k4, rfl⟩ := trodVars_two h
  obtain rfl := Option.some.inj ((show Tryz.prog.globalNamed "loop.example/g01138/impl.errWhat" = some 0 by kernel_rfl).symm.trans h1)
  obtain rfl := Option.some.inj ((show Tryz.prog.globalNamed "loop.example/g01138/impl.errNo" = some 1 by kernel_rfl).symm.trans k1)
  obtain rfl := Option.some.inj ((show (Tryz.prog.globals[0]?).map (·.type) = some 58 by kernel_rfl).symm.trans h2)
  obtain rfl := Option.some.inj ((show (Tryz.prog.globals[1]?).map (·.type) = some 58 by kernel_rfl).symm.trans k2)
  obtain ⟨x0, rfl, hx0, rfl, rfl, -⟩ := token_of h1 Tryz.underlying58 h3 h4
  obtain ⟨x1, rfl, hx1, rfl, rfl, -⟩ := token_of k1 Tryz.underlying58 k3 k4
  exact ⟨_, _, #[x0], 1, [], MemPlace.row ⟨1, 0, none⟩ 1, h1, h2, var_stays h1 h3 hb, trod_held Tryz.underlying58 hx0 0, ⟨_, _, #[x1], 1, [], [], k1, k2, var_stays k1 k3 hb, trod_held Tryz.underlying58 hx1 0, rfl, by simp⟩, by simp⟩
end Go.Proofs.YtbmhaamenjhjfaaGreatDoor
