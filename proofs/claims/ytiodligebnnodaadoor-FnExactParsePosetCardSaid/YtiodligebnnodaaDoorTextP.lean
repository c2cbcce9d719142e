/- Cutting a text at a byte: the model's l1Split. -/
import Derived.Test.YtiodligebnnodaaDoorTextR
import Derived.Test.YtiodligebnnodaaDoorTextI
namespace Go.Proofs.YtiodligebnnodaaDoor
open Go.RowKit Go.WideShapes Go.ChangeShapes
set_option linter.unusedVariables false

theorem sB_extract (l : List UInt8) (f k : Nat) : (sB l).extract f k = sB ((l.drop f).take (k - f)) := by
  apply ByteArray.ext
  rw [ByteArray.data_extract]
  show l.toArray.extract f k = ((l.drop f).take (k - f)).toArray
  simp [List.take_drop]
/-- the parts that end before place k, and where the next begins -/
def splN (b : UInt8) (l : List UInt8) : Nat → List (List UInt8) × Nat
  | 0 => ([], 0)
  | k + 1 => if l.getD k 0 = b then ((splN b l k).1 ++ [(l.drop (splN b l k).2).take (k - (splN b l k).2)], k + 1) else splN b l k
def splitL (b : UInt8) (l : List UInt8) : List (List UInt8) := (splN b l l.length).1 ++ [l.drop (splN b l l.length).2]
theorem splN_len (b : UInt8) (l : List UInt8) (k : Nat) : (splN b l k).1.length ≤ k ∧ (splN b l k).2 ≤ k := by
  induction k with
  | zero => simp [splN]
  | succ k ih =>
    unfold splN
    split
    · simp only [List.length_append, List.length_singleton]; omega
    · omega
theorem StrOwn.nil (ts : TypeId) (w : World) (B : Nat) : StrOwn ts w B (.slice none 0 0) [] := World.ownsRow_nil w B ts 1
theorem StrOwn.shape3 {ts : TypeId} {w : World} {B : Nat} {v : Value} {l : List (List UInt8)} (h : StrOwn ts w B v l) : ∃ A c, v = .slice A l.length c := by
  rcases h.2 with ⟨rfl, h0⟩ | ⟨g, cap, cur, rfl, _⟩
  · exact ⟨none, 0, by rw [h0]⟩
  · exact ⟨_, _, rfl⟩
theorem wpList_append_str {P : Program} {w W : World} {ops : Array Oper} {rest : List Oper} {o : Oper} {ac : Act} {Q : Exit → Act → World → Prop} (hgd : o.guard = none) (s x : Operand) (t ts : TypeId)
    (ho : o.op = .call { callee := .builtin .append, args := #[s, x], argTypes := #[t, t] }) (ht : P.underlying t = some (.slice ts)) (hinfo : (P.info? ts).map (fun i => (i.zero, i.size, i.bytes)) = some (some (.string { data := #[] }), 1, 16))
    (B : Nat) (v : Value) (l : List (List UInt8)) (y : List UInt8) (hs : ac.eval s = v) (hown : StrOwn ts w B v l)
    (hW : W = w.alloc (.cells #[.string (sB y)] ts)) (hx : ac.eval x = .slice (some ⟨w.heap.size, 0, none⟩) 1 1) (hlen : l.length < 2000000) (hB : B ≤ w.heap.size)
    (h : ∀ v' w', StrOwn ts w' B v' (l ++ [y]) → Below B w w' → wpList P ops Q rest (ac.put o.dst v') w') : wpList P ops Q (o :: rest) ac W := by
  subst hW
  obtain ⟨i0, hi, hz0, hz1, hz2⟩ := info_parts hinfo
  refine wpList_append_own _ hgd s x t ho B ts i0 (.string { data := #[] }) 1 16 ht hi hz0 hz1 hz2 rfl (by decide) v l.length (strs l) hs (World.ownsRow.alloc hown _) ⟨w.heap.size, 0, none⟩ 1 1 [.string (sB y)] hx rfl ?_ ?_ ?_ ?_ ?_ ?_
  · intro j u hj
    match j, hj with
    | 0, hj =>
      simp only [List.getElem?_cons_zero, Option.some.injEq] at hj
      subst hj
      exact (Blk.new w ts #[.string (sB y)]).cell 0
    | j + 1, hj => simp at hj
  · intro u hu
    simp only [List.mem_singleton] at hu
    subst hu; rfl
  · unfold maxLen; omega
  · omega
  · simp; omega
  · intro v' w' h4 h5 _
    refine h v' w' ?_ ?_
    · unfold StrOwn strs
      rw [List.length_append, List.map_append]
      exact h4
    · have hb : Below B w (w.alloc (.cells #[.string (sB y)] ts)) := (Below.refl _ _).alloc hB _
      exact hb.grown h5 (by simp; omega) fun k hk => (World.ownsRow.lt hown k hk).1
set_option maxRecDepth 100000 in
theorem l1Split_any (l : List UInt8) (b : UInt8) (w : World) (hl : l.length ≤ 1048576) :
    Calls Tryd.prog 18 #[.string (sB l), .int .u8 (b.toNat : Int)] w fun (r : Ending) w' => ∃ u, r = Ending.returned u ∧ StrOwn 9 w' w.heap.size u (splitL b l) ∧ Below w.heap.size w w' := by
  have hsz := sB_size l
  have HG := hid (sB_get l)
  have HX := hid (sB_extract l)
  obtain ⟨s, hs⟩ : ∃ s, sB l = s := ⟨_, rfl⟩
  rw [hs] at hsz HG HX ⊢
  obtain ⟨c, hc⟩ : ∃ c, b.toNat = c := ⟨_, rfl⟩
  rw [hc]
  have HCb := hid hc
  clear hs hc
  go_enter Tryd.func18, Tryd.ntmps18
  go_wp2
  go_loopw [5, 6, 7] (fun q f i wr => ∃ (k n : Nat) (P : List (List UInt8)), k ≤ l.length ∧ i = .int .i64 k ∧ f = .int .i64 n ∧ Hid (splN b l k = (P, n)) ∧ P.length ≤ k ∧ n ≤ k ∧ StrOwn 9 wr w.heap.size q P ∧ Below w.heap.size w wr) (fun _ _ i _ => l.length - (intOf i).toNat)
  case atStart => exact ⟨0, 0, [], Nat.zero_le _, rfl, rfl, hid rfl, by simp, Nat.le_refl _, StrOwn.nil _ _ _, Below.refl _ _⟩
  case round =>
    obtain ⟨k, n, P, hk, rfl, rfl, HS, hP, hn, ho, hb⟩ := hrel
    have HO := hid ho
    have HB := hid hb
    have hbz := hb.size
    obtain ⟨vA, vc, rfl⟩ := ho.shape3
    clear ho hb
    by_cases hkl : k < l.length
    · obtain ⟨d, hd⟩ : ∃ d, (l.getD k 0).toNat = d := ⟨_, rfl⟩
      have hik : ∀ h, ((s[k]'h).toNat : Int) = (d : Int) := fun h => by rw [HG.out k h, hd]
      have hkz : k < s.size := by omega
      by_cases he : l.getD k 0 = b
      · have hdc : d = c := by rw [← hd, he, HCb.out]
        have HS2 : Hid (splN b l (k + 1) = (P ++ [(l.drop n).take (k - n)], k + 1)) := hid (by rw [splN, if_pos he, HS.out])
        obtain ⟨Y, hY⟩ : ∃ Y, (l.drop n).take (k - n) = Y := ⟨_, rfl⟩
        have hex : s.extract n k = sB Y := by rw [HX.out, hY]
        rw [hY] at HS2
        subst hdc
        clear hd he hY
        go_wp2_with (at_builtin; refine wpList_append_str rfl _ _ 44 9 rfl Tryd.underlying44 Tryd.info9 w.heap.size _ P Y rfl HO.out rfl rfl (by omega) hbz ?_; intro q2 w2 hp2 hb2)
        go_roundw
        case rel => exact ⟨k + 1, k + 1, P ++ [Y], by omega, by go_num, by go_num, HS2, by simp; omega, Nat.le_refl _, hp2, HB.out.trans hb2⟩
        case measure => simp [intOf]; omega
      · have hdc : ((d : Int) == (c : Int)) = false := by
          rw [beq_eq_false_iff_ne]
          intro e
          apply he
          apply UInt8.toNat_inj.1
          rw [hd, HCb.out]; omega
        have HS2 : Hid (splN b l (k + 1) = (P, n)) := hid (by rw [splN, if_neg he, HS.out])
        clear hd he
        go_wp2
        go_roundw
        case rel => exact ⟨k + 1, n, P, by omega, by go_num, rfl, HS2, by omega, by omega, HO.out, HB.out⟩
        case measure => simp [intOf]; omega
    · obtain rfl : k = l.length := by omega
      have HT : Hid (splitL b l = P ++ [l.drop n]) := hid (by unfold splitL; rw [HS.out])
      obtain ⟨Y, hY⟩ : ∃ Y, l.drop n = Y := ⟨_, rfl⟩
      have hex : s.extract n s.size = sB Y := by
        rw [HX.out, hsz, ← hY, List.take_of_length_le (by simp)]
      have hex2 : s.extract n l.length = sB Y := by rw [← hsz]; exact hex
      rw [hY] at HT
      clear hY
      go_wp2_with (at_builtin; refine wpList_append_str rfl _ _ 44 9 rfl Tryd.underlying44 Tryd.info9 w.heap.size _ P Y rfl HO.out rfl rfl (by omega) hbz ?_; intro q2 w2 hp2 hb2)
      go_ret
      exact ⟨_, rfl, by rw [HT.out]; exact hp2, HB.out.trans hb2⟩
end Go.Proofs.YtiodligebnnodaaDoor
