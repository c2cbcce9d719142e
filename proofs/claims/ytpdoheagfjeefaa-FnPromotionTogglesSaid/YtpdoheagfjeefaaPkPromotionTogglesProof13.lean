/- Texts DrN, EvG, Comm, one behind the other. -/
import Derived.Test.YtpdoheagfjeefaaPkPromotionTogglesProof00
import Derived.Test.YtpdoheagfjeefaaPkPromotionTogglesProof07
import Derived.Test.YtpdoheagfjeefaaPkPromotionTogglesProof08
import Derived.Test.YtpdoheagfjeefaaPkPromotionTogglesProof12
/- Draws of the model, chapter 4: a toggle, promotions. -/
namespace Go.Proofs.Ytpdoheagfjeefaa
open Go.RowKit Go.WideShapes Go.ChangeShapes
set_option linter.unusedVariables false

set_option maxHeartbeats 1600000 in
theorem drawToggleLinear_any (v : Value) (bs : List Int) (w : World) (hb : BytesB w w.heap.size v bs) (hl : bs.length ≤ 1048576) :
    Calls Try.prog 46 #[v] w fun (r : Ending) w' => ∃ u xs q ws i, r = .returned (.tuple #[.agg #[u], q, .int .i64 i]) ∧ OwnI 3 w' w.heap.size u xs ∧ xs.length ≤ 21 ∧ OwnI 3 w' w.heap.size q ws ∧ ws.length ≤ 22 ∧ (-200 ≤ i ∧ i ≤ 200) ∧ Below w.heap.size w w' := by
  have HBy := hid hb
  obtain ⟨vA, vc, rfl, -⟩ := hb
  have HA0 := hid (Blk.new w 26 #[.slice none 0 0])
  have HB0 := hid (below_alloc (Below.refl _ w) (.cells #[.slice none 0 0] 26))
  go_enter Try.func46, Try.ntmps46
  go_wp2_with fail
  have HC := hid (Cur.new (w.alloc (.cells #[.slice none 0 0] 26)) _ bs (w.heap.size + 1) (by simp) ((HBy.out.below HB0.out).up (by simp)) hl)
  have HB1 := hid (below_alloc HB0.out (.cells #[.slice vA bs.length vc, .int .i64 0, .int .u64 0] 79))
  have HA1 := hid (HA0.out.alloc (.cells #[.slice vA bs.length vc, .int .i64 0, .int .u64 0] 79))
  refine (linear_any (w.heap.size + 1) 0 8 _ HC.out (by decide) (by decide) (by decide)).mono ?_
  rintro e w2 ⟨u, xs, q, ws, rfl, ho, hl2, hoq, hm2, hd⟩
  have HB2 := hid (hd.belowAll HB1.out (by omega))
  have HA2 := hid (HA1.out.turned hd.turned (Or.inl (by omega)))
  have HO := hid (ho.mono (show w.heap.size + 2 ≤ _ by simp))
  have HQ := hid (hoq.mono (show w.heap.size + 2 ≤ _ by simp))
  have HC2 := hid hd.cur
  have hz2 : w.heap.size + 2 ≤ w2.heap.size := by have := hd.turned.size; simpa using this
  obtain ⟨uA, uc, rfl, -⟩ := HO.out.shape
  obtain ⟨qA, qc, rfl, -⟩ := HQ.out.shape
  obtain ⟨n, hn⟩ : ∃ n, ws.length = n := ⟨_, rfl⟩
  have HN := hid hn
  rw [hn] at HQ hm2 ⊢
  clear ho hoq hd HA0 HA1 HB0 HB1 HC hn
  obtain ⟨B5, hB5⟩ : ∃ B5, w2.heap.size = B5 := ⟨_, rfl⟩
  have hbox := (Blk.new w2 26 #[.slice uA xs.length uc]).cell 0
  have HI3 : Hid (DI 3 26 w 240 B5 (.slice uA xs.length uc) xs (w2.alloc (.cells #[.slice uA xs.length uc] 26))) :=
    hid ⟨below_alloc HB2.out _, (HC2.out.le (by omega)).below (below_alloc (Below.refl _ _) _), HA2.out.alloc _, by rw [← hB5]; exact Blk.new w2 _ _, HO.out.alloc _⟩
  have HQ3 := hid (HQ.out.alloc (.cells #[.slice uA xs.length uc] 26))
  have hB6 : w.heap.size + 2 ≤ B5 := by omega
  clear HB2 HC2 HA2 HO HQ hz2
  go_wp2
  obtain ⟨W, hW⟩ : ∃ W, w2.alloc (.cells #[.slice uA xs.length uc] 26) = W := ⟨_, rfl⟩
  rw [hW] at HI3 HQ3 ⊢
  clear hW hbox hB5
  have HIa := hid (HI3.out.below (below_drewN (Below.refl _ _) 1))
  have HQa := hid (HQ3.out.below (below_drewN (Below.refl _ _) 1))
  have t3 := HI3.out.2.2.2.1.cell 0
  have a3 := HI3.out.2.2.1.cell 0
  have f3 := HI3.out.2.2.1.frozen 0
  have hwl : IntKind.i64.wrap ((n : Int) + 1) = (n : Int) + 1 := by rw [IntKind.wrap_i64]; omega
  go_region_held3 (fun W => W.cell? ⟨B5, 0, none⟩ = some (.slice uA xs.length uc) ∧ Hid (∃ z, DZ 3 26 w B5 z (.slice uA xs.length uc) xs W)) (first | exact ⟨((DZ.of HIy.out).box hB6 _).2.2.1.cell 0, hid ⟨_, (DZ.of HIy.out).box hB6 _⟩⟩ | exact ⟨HIy.out.2.2.2.1.cell 0, hid ⟨_, DZ.of HIy.out⟩⟩ | exact ⟨HIx.out.2.2.2.1.cell 0, hid ⟨_, DZ.of HIx.out⟩⟩ | exact ⟨HIa.out.2.2.2.1.cell 0, hid ⟨_, DZ.of HIa.out⟩⟩) (first | (go_at_call 107; refine (pick_any (w.heap.size + 1) 242 _ _ HIx.out.2.1 (by decide)).mono ?_; rintro e w31 ⟨m2, hm, rfl, hc, ht⟩; have HIy := hid (HIx.out.drawn hc ht hB6); have HQy := hid (HQx.out.turnedLow ht (by omega)); have hm2 : m2 ≤ 8 := (by omega); clear hc ht hm; have t31 := HIy.out.2.2.2.1.cell 0; have a31 := HIy.out.2.2.1.cell 0; have f31 := HIy.out.2.2.1.frozen 0; obtain ⟨X, hX⟩ : ∃ X : Nat, (m2 : Int) / 8 = X := ⟨m2 / 8, by omega⟩; have hX1 : X ≤ 1 := (by omega); have hX2 : Int.tdiv (m2 : Int) 8 = (X : Int) := (by rw [Int.tdiv_eq_ediv_of_nonneg (by omega)]; exact hX); have hX3 : IntKind.i64.wrap (X : Int) = (X : Int) := (by rw [IntKind.wrap_i64]; omega); have hX4 : IntKind.i64.wrap ((m : Int) - (X : Int)) = (m : Int) - (X : Int) := (by rw [IntKind.wrap_i64]; omega)) | (go_at_call 107; refine (pick_any (w.heap.size + 1) 240 _ _ HIa.out.2.1 (by decide)).mono ?_; rintro e w30 ⟨m, hm, rfl, hc, ht⟩; have HIx := hid (HIa.out.drawn hc ht hB6); have HQx := hid (HQa.out.turnedLow ht (by omega)); have hm : m ≤ 50 := (by omega); clear hc ht hm; have t30 := HIx.out.2.2.2.1.cell 0; have a30 := HIx.out.2.2.1.cell 0; have f30 := HIx.out.2.2.1.frozen 0))
  all_goals
    have H20 := hid ((DZ.of HIy.out).box hB6 (.slice uA xs.length uc))
    have HQf := hid (OwnI.box (w := w) HQy.out (by omega) (.slice uA xs.length uc))
    have a20 := H20.out.2.1.cell 0
    go_wp2
  all_goals
    refine bodyPost_ret (v := .tuple #[.agg #[.slice uA xs.length uc], .slice qA n qc, .int .i64 ((m : Int) - (X : Int))]) (by simp [results, Try.results46, go_sem, a20]) rfl ⟨_, xs, _, ws, _, rfl, H20.out.2.2.2.mono (show w.heap.size ≤ _ by omega), hl2, HQf.out, by rw [HN.out]; omega, ⟨by omega, by omega⟩, H20.out.1⟩
set_option maxHeartbeats 1600000 in
theorem drawPromoteLinear_any (v : Value) (bs : List Int) (w : World) (hb : BytesB w w.heap.size v bs) (hl : bs.length ≤ 1048576) :
    Calls Try.prog 49 #[v] w fun (r : Ending) w' => ∃ u xs q ws i, r = .returned (.tuple #[.agg #[u], q, .int .i64 i]) ∧ OwnI 3 w' w.heap.size u xs ∧ xs.length ≤ 21 ∧ OwnI 3 w' w.heap.size q ws ∧ ws.length ≤ 22 ∧ (-200 ≤ i ∧ i ≤ 200) ∧ Below w.heap.size w w' := by
  have HBy := hid hb
  obtain ⟨vA, vc, rfl, -⟩ := hb
  have HA0 := hid (Blk.new w 26 #[.slice none 0 0])
  have HB0 := hid (below_alloc (Below.refl _ w) (.cells #[.slice none 0 0] 26))
  go_enter Try.func49, Try.ntmps49
  go_wp2_with fail
  have HC := hid (Cur.new (w.alloc (.cells #[.slice none 0 0] 26)) _ bs (w.heap.size + 1) (by simp) ((HBy.out.below HB0.out).up (by simp)) hl)
  have HB1 := hid (below_alloc HB0.out (.cells #[.slice vA bs.length vc, .int .i64 0, .int .u64 0] 79))
  have HA1 := hid (HA0.out.alloc (.cells #[.slice vA bs.length vc, .int .i64 0, .int .u64 0] 79))
  refine (linear_any (w.heap.size + 1) 0 8 _ HC.out (by decide) (by decide) (by decide)).mono ?_
  rintro e w2 ⟨u, xs, q, ws, rfl, ho, hl2, hoq, hm2, hd⟩
  have HB2 := hid (hd.belowAll HB1.out (by omega))
  have HA2 := hid (HA1.out.turned hd.turned (Or.inl (by omega)))
  have HO := hid (ho.mono (show w.heap.size + 2 ≤ _ by simp))
  have HQ := hid (hoq.mono (show w.heap.size + 2 ≤ _ by simp))
  have HC2 := hid hd.cur
  have hz2 : w.heap.size + 2 ≤ w2.heap.size := by have := hd.turned.size; simpa using this
  obtain ⟨uA, uc, rfl, -⟩ := HO.out.shape
  obtain ⟨qA, qc, rfl, -⟩ := HQ.out.shape
  obtain ⟨n, hn⟩ : ∃ n, ws.length = n := ⟨_, rfl⟩
  have HN := hid hn
  rw [hn] at HQ hm2 ⊢
  clear ho hoq hd HA0 HA1 HB0 HB1 HC hn
  obtain ⟨B5, hB5⟩ : ∃ B5, w2.heap.size = B5 := ⟨_, rfl⟩
  have hbox := (Blk.new w2 26 #[.slice uA xs.length uc]).cell 0
  have HI3 : Hid (DI 3 26 w 240 B5 (.slice uA xs.length uc) xs (w2.alloc (.cells #[.slice uA xs.length uc] 26))) :=
    hid ⟨below_alloc HB2.out _, (HC2.out.le (by omega)).below (below_alloc (Below.refl _ _) _), HA2.out.alloc _, by rw [← hB5]; exact Blk.new w2 _ _, HO.out.alloc _⟩
  have HQ3 := hid (HQ.out.alloc (.cells #[.slice uA xs.length uc] 26))
  have hB6 : w.heap.size + 2 ≤ B5 := by omega
  clear HB2 HC2 HA2 HO HQ hz2
  go_wp2_with fail
  refine (pick_any (w.heap.size + 1) 240 _ _ HI3.out.2.1 (by decide)).mono ?_
  rintro e w3 ⟨m, hm, rfl, hc, ht⟩
  have HI4 := hid (HI3.out.drawn hc ht hB6)
  have HQ4 := hid (HQ3.out.turnedLow ht (by omega))
  have hm25 : m ≤ 25 := by omega
  clear hm hc ht HI3 HQ3 hbox
  go_wp2_with fail
  refine (one_any (w.heap.size + 1) 242 10 _ HI4.out.2.1 (by decide)).mono ?_
  rintro e w4 ⟨b, rfl, hc, ht⟩
  have HI5 := hid (HI4.out.drawn hc ht hB6)
  have HQ5 := hid (HQ4.out.turnedLow ht (by omega))
  clear hc ht HI4 HQ4
  cases b
  · have t5 := HI5.out.2.2.2.1.cell 0
    have a5 := HI5.out.2.2.1.cell 0
    have f5 := HI5.out.2.2.1.frozen 0
    have H20 := hid ((DZ.of HI5.out).box hB6 (.slice uA xs.length uc))
    have HQf := hid (OwnI.box (w := w) HQ5.out (by omega) (.slice uA xs.length uc))
    have a20 := H20.out.2.1.cell 0
    go_wp2
    refine bodyPost_ret (v := .tuple #[.agg #[.slice uA xs.length uc], .slice qA n qc, .int .i64 ((m : Int) - 8)]) (by simp [results, Try.results49, go_sem, a20]) rfl ⟨_, xs, _, ws, _, rfl, H20.out.2.2.2.mono (show w.heap.size ≤ _ by omega), hl2, HQf.out, by rw [HN.out]; omega, ⟨by omega, by omega⟩, H20.out.1⟩
  · go_wp2_with fail
    refine (among_any (w.heap.size + 1) 244 _ [-101, -100, 100, 101] _ (HI5.out.2.1.below (below_alloc (Below.refl _ _) _)) (by decide) ⟨_, Blk.new _ _ _, by have := HI5.out.2.1.lt; omega, rfl⟩ (by simp) (by simp)).mono ?_
    rintro e w6 ⟨k, hk, rfl, hc, ht⟩
    have HI6 := hid ((HI5.out.below (below_alloc (Below.refl _ _) _)).drawn hc ht hB6)
    have HQ6 := hid ((HQ5.out.alloc _).turnedLow ht (by omega))
    have hy := hid (getD_range (p := fun x => -101 ≤ x ∧ x ≤ 101) (l := [-101, -100, 100, 101]) (by decide) hk)
    obtain ⟨y, hy2⟩ : ∃ y, [(-101 : Int), -100, 100, 101].getD k 0 = y := ⟨_, rfl⟩
    rw [hy2] at hy ⊢
    clear hc ht hk hy2 HI5 HQ5
    have t5 := HI6.out.2.2.2.1.cell 0
    have a5 := HI6.out.2.2.1.cell 0
    have f5 := HI6.out.2.2.1.frozen 0
    have H20 := hid ((DZ.of HI6.out).box hB6 (.slice uA xs.length uc))
    have HQf := hid (OwnI.box (w := w) HQ6.out (by omega) (.slice uA xs.length uc))
    have a20 := H20.out.2.1.cell 0
    go_wp2
    refine bodyPost_ret (v := .tuple #[.agg #[.slice uA xs.length uc], .slice qA n qc, .int .i64 y]) (by simp [results, Try.results49, go_sem, a20]) rfl ⟨_, xs, _, ws, _, rfl, H20.out.2.2.2.mono (show w.heap.size ≤ _ by omega), hl2, HQf.out, by rw [HN.out]; omega, ⟨by have := hy.out; omega, by have := hy.out; omega⟩, H20.out.1⟩
end Go.Proofs.Ytpdoheagfjeefaa

/- Evacuation, of any involutions in a row of which those that are not neighbours commute. No program is named here. -/
namespace Go.Proofs.Ytpdoheagfjeefaa
set_option linter.unusedVariables false

/-- involutions T 0, .., T (n - 1) on the numbers of kind D -/
structure Ivs {α : Type} (T : Nat → α → α) (D : α → Prop) (n : Nat) : Prop where
  ins : ∀ i s, i < n → D s → D (T i s)
  inv : ∀ i s, i < n → D s → T i (T i s) = s
  com : ∀ i j s, i < n → j < n → i + 2 ≤ j → D s → T i (T j s) = T j (T i s)
def actT {α : Type} (T : Nat → α → α) (w : List Nat) (s : α) : α := w.foldl (fun s i => T i s) s
theorem actT_nil {α : Type} (T : Nat → α → α) (s : α) : actT T [] s = s := rfl
theorem actT_cons {α : Type} (T : Nat → α → α) (i : Nat) (w : List Nat) (s : α) : actT T (i :: w) s = actT T w (T i s) := rfl
theorem actT_append {α : Type} (T : Nat → α → α) (a b : List Nat) (s : α) : actT T (a ++ b) s = actT T b (actT T a s) := by simp [actT, List.foldl_append]
/-- all letters are below n -/
def Lt (n : Nat) (w : List Nat) : Prop := ∀ i ∈ w, i < n
theorem Lt.app {n : Nat} {a b : List Nat} (ha : Lt n a) (hb : Lt n b) : Lt n (a ++ b) := fun i hi => (List.mem_append.1 hi).elim (ha i) (hb i)
theorem Lt.mono {m n : Nat} {a : List Nat} (h : Lt m a) (hmn : m ≤ n) : Lt n a := fun i hi => Nat.lt_of_lt_of_le (h i hi) hmn
theorem Ivs.act {α : Type} {T : Nat → α → α} {D : α → Prop} {n : Nat} (H : Ivs T D n) {w : List Nat} (hw : Lt n w) : ∀ s, D s → D (actT T w s) := by
  induction w with
  | nil => exact fun s hs => hs
  | cons i w ih => exact fun s hs => ih (fun j hj => hw j (List.mem_cons_of_mem _ hj)) _ (H.ins i s (hw i (by simp)) hs)
theorem Ivs.rev {α : Type} {T : Nat → α → α} {D : α → Prop} {n : Nat} (H : Ivs T D n) {w : List Nat} (hw : Lt n w) : ∀ s, D s → actT T (w ++ w.reverse) s = s := by
  induction w with
  | nil => exact fun s hs => rfl
  | cons i w ih =>
    intro s hs
    have hi := hw i (by simp)
    have hw2 : Lt n w := fun j hj => hw j (List.mem_cons_of_mem _ hj)
    rw [List.reverse_cons, ← List.append_assoc, actT_append, List.cons_append]
    show T i (actT T (w ++ w.reverse) (T i s)) = s
    rw [ih hw2 _ (H.ins i s hi hs)]
    exact H.inv i s hi hs
theorem Ivs.com' {α : Type} {T : Nat → α → α} {D : α → Prop} {n : Nat} (H : Ivs T D n) {i j : Nat} {s : α} (hi : i < n) (hj : j < n) (hij : i + 2 ≤ j ∨ j + 2 ≤ i) (hs : D s) : T i (T j s) = T j (T i s) :=
  hij.elim (fun h => H.com i j s hi hj h hs) (fun h => (H.com j i s hj hi h hs).symm)
theorem Ivs.one {α : Type} {T : Nat → α → α} {D : α → Prop} {n : Nat} (H : Ivs T D n) {i : Nat} (hi : i < n) {b : List Nat} (hb : Lt n b) (h : ∀ j ∈ b, i + 2 ≤ j ∨ j + 2 ≤ i) : ∀ s, D s → actT T b (T i s) = T i (actT T b s) := by
  induction b with
  | nil => exact fun _ _ => rfl
  | cons j b ih =>
    intro s hs
    have hj := hb j (by simp)
    rw [actT_cons, actT_cons, ← H.com' hi hj (h j (by simp)) hs]
    exact ih (fun k hk => hb k (List.mem_cons_of_mem _ hk)) (fun k hk => h k (List.mem_cons_of_mem _ hk)) _ (H.ins j s hj hs)
theorem Ivs.swap {α : Type} {T : Nat → α → α} {D : α → Prop} {n : Nat} (H : Ivs T D n) {a b : List Nat} (ha : Lt n a) (hb : Lt n b) (h : ∀ i ∈ a, ∀ j ∈ b, i + 2 ≤ j ∨ j + 2 ≤ i) : ∀ s, D s → actT T (a ++ b) s = actT T (b ++ a) s := by
  induction a with
  | nil => intro s hs; simp
  | cons i a ih =>
    intro s hs
    have hi := ha i (by simp)
    have ha2 : Lt n a := fun j hj => ha j (List.mem_cons_of_mem _ hj)
    rw [List.cons_append, actT_cons, ih ha2 (fun k hk => h k (List.mem_cons_of_mem _ hk)) _ (H.ins i s hi hs), actT_append, H.one hi hb (h i (by simp)) s hs, actT_append, actT_cons]
/-- 0, 1, .., k - 1 · m, .., n - 1 · up k, up (k - 1), .., up 1 -/
def upW (k : Nat) : List Nat := List.range k
def geW (m n : Nat) : List Nat := (List.range (n - m)).map fun j => m + j
def gaW : Nat → List Nat
  | 0 => []
  | k + 1 => upW (k + 1) ++ gaW k
theorem upW_lt (k : Nat) : Lt k (upW k) := fun i hi => List.mem_range.1 hi
theorem gaW_lt : ∀ k, Lt k (gaW k)
  | 0 => fun i hi => by cases hi
  | k + 1 => (upW_lt (k + 1)).app ((gaW_lt k).mono (Nat.le_succ k))
theorem geW_mem {m n i : Nat} : i ∈ geW m n ↔ m ≤ i ∧ i < n := by
  unfold geW
  rw [List.mem_map]
  constructor
  · rintro ⟨j, hj, rfl⟩; rw [List.mem_range] at hj; omega
  · rintro ⟨h1, h2⟩; exact ⟨i - m, List.mem_range.2 (by omega), by omega⟩
theorem geW_lt (m n : Nat) : Lt n (geW m n) := fun i hi => (geW_mem.1 hi).2
theorem upW_geW {m n : Nat} (h : m ≤ n) : upW m ++ geW m n = upW n := by
  unfold upW geW
  have e := List.range_add (n := m) (m := n - m)
  rw [show m + (n - m) = n by omega] at e
  exact e.symm
theorem upW_succ (k : Nat) : upW (k + 1) = upW k ++ [k] := List.range_succ
/-- evacuation of k + 1 is that of k, and all backwards -/
theorem Ivs.gaBack {α : Type} {T : Nat → α → α} {D : α → Prop} {n : Nat} (H : Ivs T D n) : ∀ k, k + 1 ≤ n → ∀ s, D s → actT T (gaW (k + 1)) s = actT T (gaW k ++ (upW (k + 1)).reverse) s
  | 0, h, s, hs => rfl
  | k + 1, h, s, hs => by
    have h1 : gaW (k + 2) = upW (k + 1) ++ ([k + 1] ++ gaW (k + 1)) := by
      show upW (k + 2) ++ gaW (k + 1) = _
      rw [upW_succ (k + 1), List.append_assoc]
    have hup := (upW_lt (k + 1)).mono (show k + 1 ≤ n by omega)
    rw [h1, actT_append, actT_append]
    have hs1 := H.act hup s hs
    have hs2 : D (actT T [k + 1] (actT T (upW (k + 1)) s)) := H.act (w := [k + 1]) (fun i hi => by rw [List.mem_singleton] at hi; omega) _ hs1
    rw [H.gaBack k (by omega) _ hs2, ← actT_append, ← List.append_assoc, actT_append]
    rw [H.swap (a := [k + 1]) (b := gaW k) (fun i hi => by rw [List.mem_singleton] at hi; omega) ((gaW_lt k).mono (by omega)) (fun i hi j hj => by rw [List.mem_singleton] at hi; have := gaW_lt k j hj; omega) _ hs1]
    rw [← actT_append, ← actT_append]
    congr 1
    rw [upW_succ (k + 1), List.reverse_append]
    show _ = (upW (k + 1) ++ gaW k) ++ ([k + 1] ++ (upW (k + 1)).reverse)
    simp
/-- evacuation undoes itself -/
theorem Ivs.gaTwice {α : Type} {T : Nat → α → α} {D : α → Prop} {n : Nat} (H : Ivs T D n) : ∀ k, k ≤ n → ∀ s, D s → actT T (gaW k) (actT T (gaW k) s) = s
  | 0, h, s, hs => rfl
  | k + 1, h, s, hs => by
    have hg := (gaW_lt k).mono (show k ≤ n by omega)
    have hup := (upW_lt (k + 1)).mono h
    have hr : Lt n (upW (k + 1)).reverse := fun i hi => hup i (List.mem_reverse.1 hi)
    rw [H.gaBack k h s hs, actT_append]
    show actT T (upW (k + 1) ++ gaW k) _ = s
    rw [actT_append, ← actT_append T _ (upW (k + 1))]
    have e := H.rev (w := (upW (k + 1)).reverse) hr (actT T (gaW k) s) (H.act hg s hs)
    rw [List.reverse_reverse] at e
    rw [e]
    exact H.gaTwice k (by omega) s hs
/-- and turns 'all of them in order' round -/
theorem Ivs.gaTurn {α : Type} {T : Nat → α → α} {D : α → Prop} {n : Nat} (H : Ivs T D n) {k : Nat} (h : k + 1 ≤ n) {s : α} (hs : D s) : actT T (upW (k + 1)) (actT T (gaW (k + 1)) (actT T (upW (k + 1)) s)) = actT T (gaW (k + 1)) s := by
  have hg := (gaW_lt k).mono (show k ≤ n by omega)
  have hup := (upW_lt (k + 1)).mono h
  have hr : Lt n (upW (k + 1)).reverse := fun i hi => hup i (List.mem_reverse.1 hi)
  have hs1 := H.act hup s hs
  rw [H.gaBack k h _ hs1, actT_append, ← actT_append T _ (upW (k + 1))]
  have e := H.rev (w := (upW (k + 1)).reverse) hr (actT T (gaW k) (actT T (upW (k + 1)) s)) (H.act hg _ hs1)
  rw [List.reverse_reverse] at e
  rw [e, ← actT_append]
  rfl
/-- m .. n - 1, then m - 1 .. n - 1, .., then 1 .. n - 1 -/
def reW (n : Nat) : Nat → List Nat
  | 0 => []
  | m + 1 => geW (m + 1) n ++ reW n m
theorem reW_lt (n : Nat) : ∀ m, Lt n (reW n m)
  | 0 => fun i hi => by cases hi
  | m + 1 => (geW_lt (m + 1) n).app (reW_lt n m)
def powT {α : Type} (T : Nat → α → α) (w : List Nat) : Nat → α → α
  | 0, s => s
  | k + 1, s => powT T w k (actT T w s)
theorem powT_last {α : Type} (T : Nat → α → α) (w : List Nat) : ∀ k s, powT T w (k + 1) s = actT T w (powT T w k s)
  | 0, s => rfl
  | k + 1, s => by rw [powT, powT_last T w k]; rfl
/-- the dual evacuation: n - 1, .., 0, then n - 1, .., 1, .., then n - 1 -/
def duW (n : Nat) : List Nat := (reW n (n - 1) ++ upW n).reverse
theorem Ivs.gaRe {α : Type} {T : Nat → α → α} {D : α → Prop} {n : Nat} (H : Ivs T D n) : ∀ m, m < n → ∀ s, D s → actT T (gaW m ++ reW n m) s = powT T (upW n) m s
  | 0, h, s, hs => rfl
  | m + 1, h, s, hs => by
    have hup := (upW_lt (m + 1)).mono (show m + 1 ≤ n by omega)
    have hs1 := H.act hup s hs
    have e1 : gaW (m + 1) ++ reW n (m + 1) = upW (m + 1) ++ (gaW m ++ geW (m + 1) n ++ reW n m) := by
      show (upW (m + 1) ++ gaW m) ++ (geW (m + 1) n ++ reW n m) = _
      simp
    rw [e1, actT_append, actT_append, H.swap ((gaW_lt m).mono (by omega)) (geW_lt (m + 1) n) (fun i hi j hj => by have := gaW_lt m i hi; have := (geW_mem.1 hj).1; omega) _ hs1, ← actT_append, List.append_assoc, actT_append,
      ← actT_append T (upW (m + 1)), upW_geW (by omega)]
    exact H.gaRe m (by omega) _ (H.act (upW_lt n) s hs)
theorem Ivs.duTwo {α : Type} {T : Nat → α → α} {D : α → Prop} {n : Nat} (H : Ivs T D n) (h1 : 1 ≤ n) {s : α} (hs : D s) (hd : actT T (duW n) (actT T (duW n) s) = s) (hall : ∀ t, D t → actT T (duW n) (actT T (duW n) t) = t) : actT T (duW n) (actT T (gaW n) s) = powT T (upW n) (n + 1) s := by
  obtain ⟨m, rfl⟩ : ∃ m, n = m + 1 := ⟨n - 1, by omega⟩
  have hre : Lt (m + 1) (reW (m + 1) m ++ upW (m + 1)) := (reW_lt (m + 1) m).app (upW_lt (m + 1))
  have hdl : Lt (m + 1) (duW (m + 1)) := fun i hi => hre i (List.mem_reverse.1 hi)
  have hg := H.act (gaW_lt (m + 1)) s hs
  -- the dual is its own reverse
  have e : actT T (duW (m + 1)) (actT T (gaW (m + 1)) s) = actT T (reW (m + 1) m ++ upW (m + 1)) (actT T (gaW (m + 1)) s) := by
    have e1 := H.rev (w := duW (m + 1)) hdl (actT T (gaW (m + 1)) s) hg
    have e2 : (duW (m + 1)).reverse = reW (m + 1) m ++ upW (m + 1) := List.reverse_reverse _
    rw [e2, actT_append] at e1
    have hd2 := H.act hdl _ hg
    have e3 := hall _ hg
    have e4 : ∀ t, D t → actT T (reW (m + 1) m ++ upW (m + 1)) (actT T (duW (m + 1)) t) = t := fun t ht => by
      have := H.rev (w := duW (m + 1)) hdl t ht
      rwa [e2, actT_append] at this
    have e5 := e4 _ hd2
    rw [e3] at e5
    exact e5.symm
  rw [e, actT_append, ← actT_append T (gaW (m + 1))]
  have e6 : gaW (m + 1) ++ reW (m + 1) m = upW (m + 1) ++ (gaW m ++ reW (m + 1) m) := by
    show (upW (m + 1) ++ gaW m) ++ _ = _
    simp
  rw [e6, actT_append, H.gaRe m (by omega) _ (H.act (upW_lt (m + 1)) s hs), ← powT_last]
  rfl
/-- the involutions in the other order -/
theorem Ivs.flip {α : Type} {T : Nat → α → α} {D : α → Prop} {n : Nat} (H : Ivs T D n) : Ivs (fun i => T (n - 1 - i)) D n where
  ins i s hi hs := H.ins _ s (by omega) hs
  inv i s hi hs := H.inv _ s (by omega) hs
  com i j s hi hj hij hs := (H.com (n - 1 - j) (n - 1 - i) s (by omega) (by omega) (by omega) hs).symm
theorem actT_flip {α : Type} (T : Nat → α → α) (n : Nat) : ∀ (w : List Nat) (s : α), actT (fun i => T (n - 1 - i)) w s = actT T (w.map fun i => n - 1 - i) s
  | [], s => rfl
  | i :: w, s => by rw [actT_cons, List.map_cons, actT_cons]; exact actT_flip T n w _
theorem upW_flip (n k : Nat) (hk : k ≤ n) : (upW k).map (fun i => n - 1 - i) = (geW (n - k) n).reverse := by
  apply List.ext_getElem
  · simp [upW, geW]; omega
  · intro i h1 h2
    rw [List.getElem_reverse]
    simp only [upW, geW, List.getElem_map, List.getElem_range, List.length_map, List.length_range]
    have : i < k := by simpa [upW] using h1
    omega
def reX (n : Nat) : Nat → List Nat
  | 0 => []
  | k + 1 => reX n k ++ geW (n - (k + 1)) n
theorem gaW_flip (n : Nat) : ∀ k, k ≤ n → (gaW k).map (fun i => n - 1 - i) = (reX n k).reverse
  | 0, _ => rfl
  | k + 1, h => by
    show (upW (k + 1) ++ gaW k).map _ = (reX n k ++ geW (n - (k + 1)) n).reverse
    rw [List.map_append, upW_flip n (k + 1) h, gaW_flip n k (by omega), List.reverse_append]
theorem reX_reW (n : Nat) : ∀ k, k + 1 ≤ n → reX n k ++ reW n (n - 1 - k) = reW n (n - 1)
  | 0, _ => rfl
  | k + 1, h => by
    have ih := reX_reW n k (by omega)
    have e : reW n (n - 1 - k) = geW (n - (k + 1)) n ++ reW n (n - 1 - (k + 1)) := by
      obtain ⟨m, hm⟩ : ∃ m, n - 1 - k = m + 1 := ⟨n - 1 - k - 1, by omega⟩
      rw [hm, show n - (k + 1) = m + 1 by omega, show n - 1 - (k + 1) = m by omega]; rfl
    rw [e, ← List.append_assoc] at ih
    exact ih
theorem duW_flip {n : Nat} (h : 1 ≤ n) : (gaW n).map (fun i => n - 1 - i) = duW n := by
  rw [gaW_flip n n (Nat.le_refl _)]
  unfold duW
  congr 1
  obtain ⟨m, rfl⟩ : ∃ m, n = m + 1 := ⟨n - 1, by omega⟩
  have e := reX_reW (m + 1) m (by omega)
  rw [show m + 1 - 1 - m = 0 by omega] at e
  show reX (m + 1) m ++ geW (m + 1 - (m + 1)) (m + 1) = _
  rw [← e, show m + 1 - (m + 1) = 0 by omega]
  have e2 : geW 0 (m + 1) = upW (m + 1) := by simp [geW, upW]
  rw [e2]
  simp [reW]
theorem Ivs.duTwice {α : Type} {T : Nat → α → α} {D : α → Prop} {n : Nat} (H : Ivs T D n) (h : 1 ≤ n) {s : α} (hs : D s) : actT T (duW n) (actT T (duW n) s) = s := by
  have e := H.flip.gaTwice n (Nat.le_refl _) s hs
  rw [actT_flip, actT_flip, duW_flip h] at e
  exact e
theorem duW_lt {n : Nat} : Lt n (duW n) := fun i hi => ((reW_lt n (n - 1)).app (upW_lt n)) i (List.mem_reverse.1 hi)
theorem Ivs.duTurn {α : Type} {T : Nat → α → α} {D : α → Prop} {n : Nat} (H : Ivs T D n) (h : 1 ≤ n) {s : α} (hs : D s) : actT T (upW n) (actT T (duW n) (actT T (upW n) s)) = actT T (duW n) s := by
  obtain ⟨m, rfl⟩ : ∃ m, n = m + 1 := ⟨n - 1, by omega⟩
  have hup := upW_lt (m + 1)
  have hr : Lt (m + 1) (upW (m + 1)).reverse := fun i hi => hup i (List.mem_reverse.1 hi)
  have hs1 := H.act hup s hs
  have e := H.flip.gaTurn (k := m) (Nat.le_refl _) hs1
  rw [actT_flip, actT_flip, actT_flip, actT_flip, duW_flip h, upW_flip (m + 1) (m + 1) (Nat.le_refl _), show m + 1 - (m + 1) = 0 by omega] at e
  have e2 : geW 0 (m + 1) = upW (m + 1) := by simp [geW, upW]
  rw [e2] at e
  have e3 := H.rev hup s hs
  rw [actT_append] at e3
  rw [e3] at e
  have hd := H.act duW_lt s hs
  have e4 := H.rev hr _ hd
  rw [List.reverse_reverse, actT_append, e] at e4
  exact e4
theorem Ivs.gaDu {α : Type} {T : Nat → α → α} {D : α → Prop} {n : Nat} (H : Ivs T D n) (h1 : 1 ≤ n) {s : α} (hs : D s) : actT T (duW n) (actT T (gaW n) s) = powT T (upW n) (n + 1) s :=
  H.duTwo h1 hs (H.duTwice h1 hs) fun t ht => H.duTwice h1 ht
end Go.Proofs.Ytpdoheagfjeefaa

/- When two toggles commute. No program is named here. -/
namespace Go.Proofs.Ytpdoheagfjeefaa
set_option linter.unusedVariables false

/-- would toggling at e turn s? -/
def can (xs : List Int) (s e : Nat) : Bool := holdsIdeal xs (s ^^^ 2 ^ e)
theorem tog_can {xs : List Int} {s e : Nat} (h : can xs s e = true) : tog xs s e = s ^^^ 2 ^ e := tog_yes h
theorem tog_cant {xs : List Int} {s e : Nat} (h : can xs s e = false) : tog xs s e = s := tog_no h
/-- an element that is there can go if nothing above it is there; one that isn't can come if all below are there -/
theorem can_in {xs : List Int} (hg : good xs = true) {s e : Nat} (hs : holdsIdeal xs s = true) (he : e < xs.length) (hb : s.testBit e = true) :
    can xs s e = true ↔ ∀ i, i < xs.length → s.testBit i = true → (row xs i).testBit e = false := by
  unfold can
  rw [holdsIdeal_row]
  have hI := holdsIdeal_row.1 hs
  constructor
  · intro h i hi hbi
    cases hr : (row xs i).testBit e
    · rfl
    · exfalso
      have hei : e < i := testBit_lt (row_lt hg hi).2 hr
      have := h i hi (by rw [xor_bit, if_neg (by omega)]; exact hbi) e hr
      rw [xor_bit, if_pos rfl, hb] at this; cases this
  · intro h i hi hbi j hj
    rw [xor_bit] at hbi ⊢
    split at hbi
    · rw [hb] at hbi; cases hbi
    · split
      · rename_i hje
        subst hje
        rw [h i hi hbi] at hj; cases hj
      · exact hI i hi hbi j hj
theorem can_out {xs : List Int} (hg : good xs = true) {s e : Nat} (hs : holdsIdeal xs s = true) (he : e < xs.length) (hb : s.testBit e = false) :
    can xs s e = true ↔ ∀ j, (row xs e).testBit j = true → s.testBit j = true := by
  unfold can
  rw [holdsIdeal_row]
  have hI := holdsIdeal_row.1 hs
  constructor
  · intro h j hj
    have hje : j < e := testBit_lt (row_lt hg he).2 hj
    have := h e he (by rw [xor_bit, if_pos rfl, hb]; rfl) j hj
    rw [xor_bit, if_neg (by omega)] at this
    exact this
  · intro h i hi hbi j hj
    rw [xor_bit] at hbi ⊢
    split at hbi
    · rename_i hie
      subst hie
      have hje : j < i := testBit_lt (row_lt hg hi).2 hj
      rw [if_neg (by omega)]
      exact h j hj
    · have := hI i hi hbi j hj
      split
      · rename_i hje
        subst hje
        rw [hb] at this; cases this
      · exact this
/-- no cover between d and e, neither way -/
def Apart (xs : List Int) (d e : Nat) : Prop :=
  ((row xs e).testBit d = true → ∃ m, m < xs.length ∧ (row xs e).testBit m = true ∧ (row xs m).testBit d = true) ∧
  ((row xs d).testBit e = true → ∃ m, m < xs.length ∧ (row xs d).testBit m = true ∧ (row xs m).testBit e = true)
theorem Apart.symm {xs : List Int} {d e : Nat} (h : Apart xs d e) : Apart xs e d := ⟨h.2, h.1⟩
theorem can_stays {xs : List Int} (hg : good xs = true) {s d e : Nat} (hs : holdsIdeal xs s = true) (hd : d < xs.length) (he : e < xs.length) (hne : d ≠ e) (hap : Apart xs d e) (hce : can xs s e = true) :
    can xs (s ^^^ 2 ^ e) d = can xs s d := by
  have hs' : holdsIdeal xs (s ^^^ 2 ^ e) = true := hce
  have hI := holdsIdeal_row.1 hs
  have hbd : (s ^^^ 2 ^ e).testBit d = s.testBit d := by rw [xor_bit, if_neg hne]
  rw [Bool.eq_iff_iff]
  cases hb : s.testBit d
  · rw [can_out hg hs hd hb, can_out hg hs' hd (by rw [hbd, hb])]
    -- e below d: by an m between
    cases hr : (row xs d).testBit e
    · constructor
      · intro h j hj
        have := h j hj
        rw [xor_bit] at this
        split at this
        · rename_i hje; subst hje; rw [hr] at hj; cases hj
        · exact this
      · intro h j hj
        rw [xor_bit]
        split
        · rename_i hje; subst hje; rw [hr] at hj; cases hj
        · exact h j hj
    · obtain ⟨m, hm, h1, h2⟩ := hap.2 hr
      have hem : e < m := testBit_lt (row_lt hg hm).2 h2
      -- m isn't there, now and then
      have hms : s.testBit m = false := by
        cases hse : s.testBit e
        · cases hsm : s.testBit m
          · rfl
          · rw [hI m hm hsm e h2] at hse; cases hse
        · have := (can_in hg hs he hse).1 hce
          cases hsm : s.testBit m
          · rfl
          · rw [this m hm hsm] at h2; cases h2
      constructor
      · intro h
        have := h m h1
        rw [xor_bit, if_neg (by omega), hms] at this; cases this
      · intro h
        have := h m h1
        rw [hms] at this; cases this
  · rw [can_in hg hs hd hb, can_in hg hs' hd (by rw [hbd, hb])]
    cases hr : (row xs e).testBit d
    · constructor
      · intro h i hi hbi
        by_cases hie : i = e
        · subst hie; exact hr
        · exact h i hi (by rw [xor_bit, if_neg hie]; exact hbi)
      · intro h i hi hbi
        by_cases hie : i = e
        · subst hie; exact hr
        · rw [xor_bit, if_neg hie] at hbi
          exact h i hi hbi
    · obtain ⟨m, hm, h1, h2⟩ := hap.1 hr
      have hdm : d < m := testBit_lt (row_lt hg hm).2 h2
      have hme : m < e := testBit_lt (row_lt hg he).2 h1
      have hms : s.testBit m = true := by
        cases hse : s.testBit e
        · exact (can_out hg hs he hse).1 hce m h1
        · exact hI e he hse m h1
      constructor
      · intro h
        have := h m hm (by rw [xor_bit, if_neg (by omega)]; exact hms)
        rw [h2] at this; cases this
      · intro h
        have := h m hm hms
        rw [h2] at this; cases this
theorem xor_swap (s d e : Nat) : s ^^^ 2 ^ d ^^^ 2 ^ e = s ^^^ 2 ^ e ^^^ 2 ^ d := by
  rw [Nat.xor_assoc, Nat.xor_comm (2 ^ d), ← Nat.xor_assoc]
theorem tog_swap {xs : List Int} (hg : good xs = true) {s d e : Nat} (hs : holdsIdeal xs s = true) (hd : d < xs.length) (he : e < xs.length) (hap : Apart xs d e) :
    tog xs (tog xs s d) e = tog xs (tog xs s e) d := by
  by_cases hne : d = e
  · subst hne; rfl
  · cases h1 : can xs s d
    · cases h2 : can xs s e
      · rw [tog_cant h1, tog_cant h2, tog_cant h1]
      · rw [tog_cant h1, tog_can h2, tog_cant]
        rw [can_stays hg hs hd he hne hap h2, h1]
    · cases h2 : can xs s e
      · rw [tog_can h1, tog_cant h2, tog_can h1, tog_cant]
        rw [can_stays hg hs he hd (fun h => hne h.symm) hap.symm h1, h2]
      · rw [tog_can h1, tog_can h2, tog_can, tog_can, xor_swap]
        · rw [can_stays hg hs hd he hne hap h2, h1]
        · rw [can_stays hg hs he hd (fun h => hne h.symm) hap.symm h1, h2]
/-- d covered by e: the elements below e, without d, tell the toggles apart -/
theorem tog_apart {xs : List Int} (hg : good xs = true) {d e : Nat} (he : e < xs.length) (hr : (row xs e).testBit d = true)
    (hno : ∀ m, m < xs.length → (row xs e).testBit m = true → (row xs m).testBit d = false) :
    holdsIdeal xs (row xs e ^^^ 2 ^ d) = true ∧ row xs e ^^^ 2 ^ d < 2 ^ xs.length ∧
      (tog xs (tog xs (row xs e ^^^ 2 ^ d) d) e).testBit e = true ∧ (tog xs (tog xs (row xs e ^^^ 2 ^ d) e) d).testBit e = false := by
  have hde : d < e := testBit_lt (row_lt hg he).2 hr
  have hd : d < xs.length := by omega
  have hrow : holdsIdeal xs (row xs e) = true := holdsIdeal_row.2 fun i hi hbi j hj => row_closed hg he hbi hj
  have hI : holdsIdeal xs (row xs e ^^^ 2 ^ d) = true := (can_in hg hrow hd hr).2 fun i hi hbi => hno i hi hbi
  have hee : (row xs e).testBit e = false := Nat.testBit_lt_two_pow (row_lt hg he).2
  have hb : (row xs e ^^^ 2 ^ d).testBit d = false := by rw [xor_bit, if_pos rfl, hr]; rfl
  have h1 : tog xs (row xs e ^^^ 2 ^ d) d = row xs e := by
    rw [tog_can (show can xs (row xs e ^^^ 2 ^ d) d = true by unfold can; rw [xor_xor]; exact hrow), xor_xor]
  have h2 : tog xs (row xs e) e = row xs e ^^^ 2 ^ e := tog_can ((can_out hg hrow he hee).2 fun j hj => hj)
  have hee2 : (row xs e ^^^ 2 ^ d).testBit e = false := by rw [xor_bit, if_neg (by omega)]; exact hee
  have h3 : tog xs (row xs e ^^^ 2 ^ d) e = row xs e ^^^ 2 ^ d := tog_cant (by
    cases hc : can xs (row xs e ^^^ 2 ^ d) e
    · rfl
    · have := (can_out hg hI he hee2).1 hc d hr
      rw [hb] at this; cases this)
  refine ⟨hI, ?_, ?_, ?_⟩
  · exact xor_lt_len (row_lt_len hg he) hd
  · rw [h1, h2, xor_bit, if_pos rfl, hee]; rfl
  · rw [h3, h1]; exact hee
/-- is one of them covered by the other? -/
def covered (xs : List Int) (d e : Nat) : Bool := (top xs (row xs (max d e))).testBit (min d e)
theorem top_row {xs : List Int} {i j : Nat} : (top xs (row xs i)).testBit j = true ↔ (row xs i).testBit j = true ∧ ∀ m, m < xs.length → (row xs i).testBit m = true → (row xs m).testBit j = false := by
  unfold top
  rw [sub_testBit, Bool.and_eq_true, Bool.not_eq_true']
  constructor
  · rintro ⟨h1, h2⟩
    refine ⟨h1, fun m hm hb => ?_⟩
    cases hr : (row xs m).testBit j
    · rfl
    · have := (underN_testBit xs (row xs i) xs.length j).2 ⟨m, hm, hb, hr⟩
      unfold under at h2
      rw [this] at h2; cases h2
  · rintro ⟨h1, h2⟩
    refine ⟨h1, ?_⟩
    cases hu : (under xs (row xs i)).testBit j
    · rfl
    · obtain ⟨m, hm, hb, hr⟩ := (underN_testBit xs (row xs i) xs.length j).1 hu
      have := h2 m hm hb
      unfold row at this
      rw [this] at hr; cases hr
theorem covered_no {xs : List Int} (hg : good xs = true) {d e : Nat} (hd : d < xs.length) (he : e < xs.length) (h : covered xs d e = false) : Apart xs d e := by
  have key : ∀ {a b : Nat}, a < xs.length → b < xs.length → (top xs (row xs b)).testBit a = false → (row xs b).testBit a = true → ∃ m, m < xs.length ∧ (row xs b).testBit m = true ∧ (row xs m).testBit a = true := by
    intro a b ha hb ht hr
    apply Classical.byContradiction
    intro hn
    rw [Bool.eq_false_iff] at ht
    apply ht
    refine top_row.2 ⟨hr, fun m hm hbm => ?_⟩
    cases hc : (row xs m).testBit a
    · rfl
    · exact absurd ⟨m, hm, hbm, hc⟩ hn
  unfold covered at h
  constructor
  · intro hr
    have hde : d < e := testBit_lt (row_lt hg he).2 hr
    rw [Nat.max_eq_right (by omega), Nat.min_eq_left (by omega)] at h
    exact key hd he h hr
  · intro hr
    have hde : e < d := testBit_lt (row_lt hg hd).2 hr
    rw [Nat.max_eq_left (by omega), Nat.min_eq_right (by omega)] at h
    exact key he hd h hr
/-- do the two toggles commute on s? -/
def swapAt (xs : List Int) (d e s : Nat) : Bool := tog xs (tog xs s d) e == tog xs (tog xs s e) d
theorem covered_yes {xs : List Int} (hg : good xs = true) {d e : Nat} (hd : d < xs.length) (he : e < xs.length) (h : covered xs d e = true) : ∃ s, s < 2 ^ xs.length ∧ holdsIdeal xs s = true ∧ swapAt xs d e s = false := by
  unfold covered at h
  rcases Nat.lt_trichotomy d e with hde | hde | hde
  · rw [Nat.max_eq_right (by omega), Nat.min_eq_left (by omega)] at h
    obtain ⟨h1, h2⟩ := top_row.1 h
    obtain ⟨h3, h4, h5, h6⟩ := tog_apart hg he h1 h2
    refine ⟨_, h4, h3, ?_⟩
    unfold swapAt
    rw [beq_eq_false_iff_ne]
    intro hc
    rw [hc, h6] at h5; cases h5
  · subst hde
    rw [Nat.max_self, Nat.min_self] at h
    obtain ⟨h1, -⟩ := top_row.1 h
    have := testBit_lt (row_lt hg hd).2 h1
    omega
  · rw [Nat.max_eq_left (by omega), Nat.min_eq_right (by omega)] at h
    obtain ⟨h1, h2⟩ := top_row.1 h
    obtain ⟨h3, h4, h5, h6⟩ := tog_apart hg hd h1 h2
    refine ⟨_, h4, h3, ?_⟩
    unfold swapAt
    rw [beq_eq_false_iff_ne]
    intro hc
    rw [← hc, h6] at h5; cases h5
theorem covered_all {xs : List Int} (hg : good xs = true) {d e s : Nat} (hd : d < xs.length) (he : e < xs.length) (h : covered xs d e = false) (hs : holdsIdeal xs s = true) : swapAt xs d e s = true := by
  unfold swapAt
  rw [beq_iff_eq]
  exact tog_swap hg hs hd he (covered_no hg hd he h)
end Go.Proofs.Ytpdoheagfjeefaa
