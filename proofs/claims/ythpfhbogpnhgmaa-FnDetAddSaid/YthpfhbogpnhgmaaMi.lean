/-
  The program's matrices, by contract.
-/
import Derived.Test.YthpfhbogpnhgmaaMm
namespace Go.Proofs.Ythpfhbogpnhgmaa
open Go.RowKit
set_option linter.unusedVariables false

/-- what MatTimes answers to two matrices that are valid -/
def TimesI (w : World) (k : Nat) (v : Bool) (f : Mx) (e : Ending) (w' : World) : Prop :=
  (v = true → ∃ g cap bs, e = .returned (.tuple #[.slice (some ⟨g, 0, none⟩) k cap, .bool true]) ∧ GridO w' 3 29 w.heap.size g cap bs (mkL k f)) ∧
  (v = false → ∃ q d, e = .returned (.tuple #[.slice q 0 d, .bool false])) ∧ Below w.heap.size w w'
theorem iMatValid (k c : Nat) (p : Option Addr) (L : List (List Int)) (b : Bool) (w : World) (h : GRead w p L) (hk : L.length = k) (hl : k ≤ 4000000000000000000) (hb : matOk L = b) :
    Calls Try.prog 33 #[.slice p k c] w fun e w' => e = .returned (.bool b) ∧ Below w.heap.size w w' :=
  (iMatValidW k c p L b w h hk hb).mono (by rintro e w' ⟨rfl, rfl⟩; exact ⟨rfl, Below.refl _ _⟩)
theorem iMatDet_yes (k c : Nat) (p : Option Addr) (L : List (List Int)) (w : World) (h : GRead w p L) (hk : L.length = k) (hm : matOk L = true) :
    Calls Try.prog 15 #[.slice p k c] w fun e w' => e = .returned (.tuple #[.int .i64 (det k (ent L)), .bool true]) ∧ Below w.heap.size w w' := by
  have hk5 : k ≤ 5 := by have := (matOk_true.1 hm).2.1; omega
  have c1 := fun w h => Lib.hid (iMatValidW k c p L true w h hk hm)
  have c2 := fun w h => Lib.hid (iDet k c p L w h (by rw [← hk]; exact matOk.sq hm) hk5 (by rw [← hk]; exact matOk.small hm))
  obtain ⟨D, hD⟩ : ∃ D, det k (ent L) = D := ⟨_, rfl⟩
  rw [hD] at c2 ⊢
  have H := Lib.hid h
  clear h hk hm hD
  go_enter Try.func15, Try.ntmps15
  go_wp2_with (first
    | (go_at_call 33; (with_reducible refine ((c1 _ ?_).out).mono ?_); (focus (exact H.out; done)); rintro e w' ⟨rfl, rfl⟩)
    | (go_at_call 45; (with_reducible refine ((c2 _ ?_).out).mono ?_); (focus (exact H.out; done)); rintro e w2 ⟨rfl, hb_w2⟩))
  refine bodyPost_ret (v := .tuple #[.int .i64 D, .bool true]) (by simp [results, Try.results15, go_sem]) rfl ⟨rfl, hb_w2⟩
theorem iMatDet_no (k c : Nat) (p : Option Addr) (L : List (List Int)) (w : World) (h : GRead w p L) (hk : L.length = k) (hl : k ≤ 4000000000000000000) (hm : matOk L = false) :
    Calls Try.prog 15 #[.slice p k c] w fun e w' => e = .returned (.tuple #[.int .i64 0, .bool false]) ∧ Below w.heap.size w w' := by
  have c1 := fun w h => Lib.hid (iMatValidW k c p L false w h hk hm)
  have H := Lib.hid h
  clear h hk hm
  go_enter Try.func15, Try.ntmps15
  go_wp2_with (first
    | (go_at_call 33; (with_reducible refine ((c1 _ ?_).out).mono ?_); (focus (exact H.out; done)); rintro e w' ⟨rfl, rfl⟩))
  refine bodyPost_ret (v := .tuple #[.int .i64 0, .bool false]) (by simp [results, Try.results15, go_sem]) rfl ⟨rfl, Below.refl _ _⟩
theorem iMatTurn_yes (k c : Nat) (p : Option Addr) (L : List (List Int)) (w : World) (h : GRead w p L) (hk : L.length = k) (hm : matOk L = true) :
    Calls Try.prog 17 #[.slice p k c] w fun e w' => ∃ g cap bs, e = .returned (.tuple #[.slice (some ⟨g, 0, none⟩) k cap, .bool true]) ∧ GridO w' 3 29 w.heap.size g cap bs (mkL k (trn (ent L))) ∧ Below w.heap.size w w' := by
  have hk5 : k ≤ 5 := by have := (matOk_true.1 hm).2.1; omega
  have c1 := fun w h => Lib.hid (iMatValidW k c p L true w h hk hm)
  have c2 := fun w h => Lib.hid (iTurned k c p L w h (by rw [← hk]; exact matOk.sq hm) hk5)
  have H := Lib.hid h
  clear h hk hm
  go_enter Try.func17, Try.ntmps17
  go_wp2_with (first
    | (go_at_call 33; (with_reducible refine ((c1 _ ?_).out).mono ?_); (focus (exact H.out; done)); rintro e w' ⟨rfl, rfl⟩)
    | (go_at_call 47; (with_reducible refine ((c2 _ ?_).out).mono ?_); (focus (exact H.out; done)); rintro e w2 ⟨g, bs, rfl, hg_w2, hb_w2⟩; have HG := Lib.hid (And.intro hg_w2 hb_w2); clear hg_w2 hb_w2))
  refine bodyPost_ret (v := .tuple #[.slice (some ⟨g, 0, none⟩) k k, .bool true]) (by simp [results, Try.results17, go_sem]) rfl ⟨g, k, bs, rfl, HG.out.1, HG.out.2⟩
theorem iMatTurn_no (k c : Nat) (p : Option Addr) (L : List (List Int)) (w : World) (h : GRead w p L) (hk : L.length = k) (hl : k ≤ 4000000000000000000) (hm : matOk L = false) :
    Calls Try.prog 17 #[.slice p k c] w fun e w' => (∃ q d, e = .returned (.tuple #[.slice q 0 d, .bool false])) ∧ Below w.heap.size w w' := by
  have c1 := fun w h => Lib.hid (iMatValidW k c p L false w h hk hm)
  have H := Lib.hid h
  clear h hk hm
  go_enter Try.func17, Try.ntmps17
  go_wp2_with (first
    | (go_at_call 33; (with_reducible refine ((c1 _ ?_).out).mono ?_); (focus (exact H.out; done)); rintro e w' ⟨rfl, rfl⟩))
  refine bodyPost_ret (v := .tuple #[.slice none 0 0, .bool false]) (by simp [results, Try.results17, go_sem]) rfl ⟨⟨_, _, rfl⟩, Below.refl _ _⟩
theorem iMatTimes_ok (k c d : Nat) (p q : Option Addr) (A B : List (List Int)) (v : Bool) (w : World) (h : GRead w p A) (hq : GRead w q B) (hk : A.length = k) (hk2 : B.length = k) (ha : matOk A = true) (hb : matOk B = true) (hv : matOk (mkL k (mul k (ent A) (ent B))) = v) :
    Calls Try.prog 20 #[.slice p k c, .slice q k d] w (TimesI w k v (mul k (ent A) (ent B))) := by
  have hk5 : k ≤ 5 := by have := (matOk_true.1 ha).2.1; omega
  have c1 := fun w h => Lib.hid (iMatValidW k c p A true w h hk ha)
  have c2 := fun w h => Lib.hid (iMatValidW k d q B true w h hk2 hb)
  have c3 := fun w h hq => Lib.hid (iTimesM k c d p q A B w h hq (by rw [← hk]; exact matOk.sq ha) (by rw [← hk2]; exact matOk.sq hb) hk5 (by rw [← hk]; exact matOk.small ha) (by rw [← hk2]; exact matOk.small hb))
  obtain ⟨F, hF⟩ : ∃ F, mul k (ent A) (ent B) = F := ⟨_, rfl⟩
  rw [hF] at c3 hv ⊢
  have c4 := fun g w h => Lib.hid (iMatValidW k k (some ⟨g, 0, none⟩) (mkL k F) v w h mkL_len hv)
  have H := Lib.hid (And.intro h hq)
  clear h hq hk hk2 ha hb hv hF
  cases v
  · go_enter Try.func20, Try.ntmps20
    go_wp2_with (first
      | (go_at_call 33; (with_reducible refine ((c4 _ _ ?_).out).mono ?_); (focus (exact HG.out.1.read; done)); rintro e w' ⟨rfl, rfl⟩)
      | (go_at_call 33; (with_reducible refine ((c1 _ ?_).out).mono ?_); (focus (exact H.out.1; done)); rintro e w' ⟨rfl, rfl⟩)
      | (go_at_call 33; (with_reducible refine ((c2 _ ?_).out).mono ?_); (focus (exact H.out.2; done)); rintro e w' ⟨rfl, rfl⟩)
      | (go_at_call 48; (with_reducible refine ((c3 _ ?_ ?_).out).mono ?_); (focus (exact H.out.1; done)); (focus (exact H.out.2; done)); rintro e w2 ⟨g, bs, rfl, hg_w2, hb_w2⟩; have HG := Lib.hid (And.intro hg_w2 hb_w2); clear hg_w2 hb_w2))
    refine bodyPost_ret (v := .tuple #[.slice none 0 0, .bool false]) (by simp [results, Try.results20, go_sem]) rfl ⟨(fun h => by cases h), fun _ => ⟨_, _, rfl⟩, HG.out.2⟩
  · go_enter Try.func20, Try.ntmps20
    go_wp2_with (first
      | (go_at_call 33; (with_reducible refine ((c4 _ _ ?_).out).mono ?_); (focus (exact HG.out.1.read; done)); rintro e w' ⟨rfl, rfl⟩)
      | (go_at_call 33; (with_reducible refine ((c1 _ ?_).out).mono ?_); (focus (exact H.out.1; done)); rintro e w' ⟨rfl, rfl⟩)
      | (go_at_call 33; (with_reducible refine ((c2 _ ?_).out).mono ?_); (focus (exact H.out.2; done)); rintro e w' ⟨rfl, rfl⟩)
      | (go_at_call 48; (with_reducible refine ((c3 _ ?_ ?_).out).mono ?_); (focus (exact H.out.1; done)); (focus (exact H.out.2; done)); rintro e w2 ⟨g, bs, rfl, hg_w2, hb_w2⟩; have HG := Lib.hid (And.intro hg_w2 hb_w2); clear hg_w2 hb_w2))
    refine bodyPost_ret (v := .tuple #[.slice (some ⟨g, 0, none⟩) k k, .bool true]) (by simp [results, Try.results20, go_sem]) rfl ⟨fun _ => ⟨g, k, bs, rfl, HG.out.1⟩, (fun h => by cases h), HG.out.2⟩
theorem iMatTimes_no (k n c d : Nat) (p q : Option Addr) (A B : List (List Int)) (w : World) (h : GRead w p A) (hq : GRead w q B) (hk : A.length = k) (hn : B.length = n) (hl : k ≤ 4000000000000000000) (hl2 : n ≤ 4000000000000000000) (hno : ¬ (matOk A = true ∧ matOk B = true ∧ k = n)) :
    Calls Try.prog 20 #[.slice p k c, .slice q n d] w fun e w' => (∃ q d, e = .returned (.tuple #[.slice q 0 d, .bool false])) ∧ Below w.heap.size w w' := by
  have H := Lib.hid (And.intro h hq)
  cases ha : matOk A
  · have c1 := fun w h => Lib.hid (iMatValidW k c p A false w h hk ha)
    clear h hq hk hn hno ha
    go_enter Try.func20, Try.ntmps20
    go_wp2_with (go_at_call 33; (with_reducible refine ((c1 _ ?_).out).mono ?_); (focus (exact H.out.1; done)); rintro e w' ⟨rfl, rfl⟩)
    refine bodyPost_ret (v := .tuple #[.slice none 0 0, .bool false]) (by simp [results, Try.results20, go_sem]) rfl ⟨⟨_, _, rfl⟩, Below.refl _ _⟩
  · have c1 := fun w h => Lib.hid (iMatValidW k c p A true w h hk ha)
    cases hb : matOk B
    · have c2 := fun w h => Lib.hid (iMatValidW n d q B false w h hn hb)
      clear h hq hk hn hno ha hb
      go_enter Try.func20, Try.ntmps20
      go_wp2_with (first
        | (go_at_call 33; (with_reducible refine ((c1 _ ?_).out).mono ?_); (focus (exact H.out.1; done)); rintro e w' ⟨rfl, rfl⟩)
        | (go_at_call 33; (with_reducible refine ((c2 _ ?_).out).mono ?_); (focus (exact H.out.2; done)); rintro e w' ⟨rfl, rfl⟩))
      refine bodyPost_ret (v := .tuple #[.slice none 0 0, .bool false]) (by simp [results, Try.results20, go_sem]) rfl ⟨⟨_, _, rfl⟩, Below.refl _ _⟩
    · have c2 := fun w h => Lib.hid (iMatValidW n d q B true w h hn hb)
      have hkn : ¬ (k : Int) = (n : Int) := by
        intro e; exact hno ⟨ha, hb, by omega⟩
      clear h hq hk hn hno ha hb
      go_enter Try.func20, Try.ntmps20
      go_wp2_with (first
        | (go_at_call 33; (with_reducible refine ((c1 _ ?_).out).mono ?_); (focus (exact H.out.1; done)); rintro e w' ⟨rfl, rfl⟩)
        | (go_at_call 33; (with_reducible refine ((c2 _ ?_).out).mono ?_); (focus (exact H.out.2; done)); rintro e w' ⟨rfl, rfl⟩))
      refine bodyPost_ret (v := .tuple #[.slice none 0 0, .bool false]) (by simp [results, Try.results20, go_sem]) rfl ⟨⟨_, _, rfl⟩, Below.refl _ _⟩
set_option maxHeartbeats 4000000 in
set_option maxRecDepth 100000 in
theorem iMatApply_yes (k c d : Nat) (p q : Option Addr) (L : List (List Int)) (xs : List Int) (w : World) (h : GRead w p L) (hq : Ints w q xs) (hk : L.length = k) (hok : aplOk L xs) :
    Calls Try.prog 23 #[.slice p k c, .slice q k d] w fun e w' => ∃ g cap, e = .returned (.tuple #[.slice (some ⟨g, 0, none⟩) k cap, .bool true]) ∧ w.heap.size ≤ g ∧ Own w' g 3 1 k cap (apL k L xs) ∧ Below w.heap.size w w' := by
  obtain ⟨hm, hl, hx⟩ := hok
  have hk5 : k ≤ 5 := by have := (matOk_true.1 hm).2.1; omega
  have hs : Sq k L := by rw [← hk]; exact matOk.sq hm
  have hsm : SmE k 1000 (ent L) := by rw [← hk]; exact matOk.small hm
  have hn : xs.length = k := by omega
  have c1 := fun w h => Lib.hid (iMatValidW k c p L true w h hk hm)
  have c2 := fun p w h => Lib.hid (iColumn k k c d p q xs 1000000 true w h hn (by omega) (by omega) (by omega) (decide_eq_true ⟨rfl, hx⟩))
  have hmk := fun w => made_ints w k (by omega)
  have H := Lib.hid (And.intro h (And.intro hq (And.intro hs (And.intro hsm (And.intro hn hx)))))
  have H0 : Hid (Own (w.alloc (.cells (madeCells (Array.replicate 1 (.int .i64 0)) (k * 1)) 3)) w.heap.size 3 1 k k (prow k 0 (fun i => smn k (fun j => ent L i j * num xs j)))) := Lib.hid (by
    have ho := Own.made w 3 k 1 (by decide) (by unfold maxLen; omega)
    rw [prow_zero]; rw [Nat.mul_one] at ho ⊢; exact ho)
  clear h hq hk hm hl hx hs hsm hn
  go_enter Try.func23, Try.ntmps23
  go_wp2_with (first
    | (go_at_call 33; (with_reducible refine ((c1 _ ?_).out).mono ?_); (focus (exact H.out.1; done)); rintro e w' ⟨rfl, rfl⟩)
    | (go_at_call 49; (with_reducible refine ((c2 _ _ ?_).out).mono ?_); (focus (exact H.out.2.1; done)); rintro e w' ⟨rfl, rfl⟩))
  clear hmk
  go_loopw [23] (fun i wr => ∃ x : Nat, x ≤ k ∧ i = .int .i64 x ∧ Own wr w.heap.size 3 1 k k (prow k x (fun i => smn k (fun j => ent L i j * num xs j))) ∧ Below w.heap.size w wr) (fun i _ => k - (intOf i).toNat)
  case atStart => exact ⟨0, Nat.zero_le _, rfl, by simpa using H0.out, (by repeat (first | assumption | exact Below.refl _ _ | (refine below_chain ?_ (by assumption) (by first | omega | (simp <;> omega) | simp)) | (refine Below.alloc ?_ (by first | omega | (simp <;> omega) | simp) _) | (apply below_drewN) | (apply below_drew) | (refine Below.setCell ?_ (by first | omega | (simp <;> omega) | simp) _)))⟩
  case round =>
    clear H0
    obtain ⟨x, hx, rfl, ho, hb⟩ := hrel
    have hlo := ho.lt
    by_cases hlt : x < k
    · have hlt' : (x : Int) < (k : Int) := by omega
      obtain ⟨B, o, r, q1, cq, rfl, hr, hB, e0, hcq, hi⟩ := (H.out.1.below hb).at (i := x) (by rw [H.out.2.2.1.1]; exact hlt)
      have hrl : r.length = k := H.out.2.2.1.2 r (List.mem_of_getElem? hr)
      rw [hrl] at e0 hcq
      have hre : ∀ j, num r j = ent L x j := fun j => by unfold ent; rw [rowL_at hr]
      have c3 := fun w h hq => Lib.hid (iProductSum k cq d q1 q r xs w h hq hrl H.out.2.2.2.2.1 hk5 (fun i hi => by rw [hre]; exact H.out.2.2.2.1 x i hlt hi) (fun i hi => H.out.2.2.2.2.2 _ (num_mem (by rw [H.out.2.2.2.2.1]; exact hi))))
      rw [show smn k (fun i => num r i * num xs i) = smn k (fun j => ent L x j * num xs j) from sm_congr (fun j _ => by rw [hre])] at c3
      obtain ⟨z0, hz0⟩ : ∃ z, (prow k x (fun i => smn k (fun j => ent L i j * num xs j)))[x]? = some z := ⟨_, List.getElem?_eq_getElem (by rw [prow_len _ hx]; exact hlt)⟩
      have r0 := ho.cells hz0
      have f0 := ho.frozen x
      have hst := ho.set x (smn k (fun j => ent L x j * num xs j)) (by rw [prow_len _ hx]; exact hlt)
      rw [prow_set (fun i => smn k (fun j => ent L i j * num xs j)) hlt] at hst
      obtain ⟨S, hS⟩ : ∃ S, smn k (fun j => ent L x j * num xs j) = S := ⟨_, rfl⟩
      rw [hS] at c3 hst
      have HX := Lib.hid (And.intro hst (And.intro (hb.setCell (p := ⟨w.heap.size, x, none⟩) (Nat.le_refl _) (.int .i64 S)) (And.intro hi (H.out.2.1.below hb))))
      clear ho hb hr hrl hre hz0 hst hi hS
      go_wp2_with (first
        | (go_at_call 50; (with_reducible refine ((c3 _ ?_ ?_).out).mono ?_); (focus (exact HX.out.2.2.1; done)); (focus (exact HX.out.2.2.2; done)); rintro e w' ⟨rfl, rfl⟩))
      go_roundw
      case rel => exact ⟨x + 1, by omega, by go_num, HX.out.1, HX.out.2.1⟩
      case measure => simp [intOf]; omega
    · have e : x = k := by omega
      subst e
      rw [prow_done] at ho
      have HX := Lib.hid (And.intro ho hb)
      clear ho hb
      go_wp2_with fail
      refine bodyPost_ret (v := .tuple #[.slice (some ⟨w.heap.size, 0, none⟩) x x, .bool true]) (by simp [results, Try.results23, go_sem]) rfl ⟨w.heap.size, x, rfl, Nat.le_refl _, HX.out.1, HX.out.2⟩
theorem iMatApply_no (k n c d : Nat) (p q : Option Addr) (L : List (List Int)) (xs : List Int) (w : World) (h : GRead w p L) (hq : Ints w q xs) (hk : L.length = k) (hn : xs.length = n) (hl : k ≤ 4000000000000000000) (hl2 : n ≤ 4000000000000000000) (hno : ¬ aplOk L xs) :
    Calls Try.prog 23 #[.slice p k c, .slice q n d] w fun e w' => (∃ q d, e = .returned (.tuple #[.slice q 0 d, .bool false])) ∧ Below w.heap.size w w' := by
  have H := Lib.hid (And.intro h hq)
  cases ha : matOk L
  · have c1 := fun w h => Lib.hid (iMatValidW k c p L false w h hk ha)
    clear h hq hk hn hno ha
    go_enter Try.func23, Try.ntmps23
    go_wp2_with (go_at_call 33; (with_reducible refine ((c1 _ ?_).out).mono ?_); (focus (exact H.out.1; done)); rintro e w' ⟨rfl, rfl⟩)
    refine bodyPost_ret (v := .tuple #[.slice none 0 0, .bool false]) (by simp [results, Try.results23, go_sem]) rfl ⟨⟨_, _, rfl⟩, Below.refl _ _⟩
  · have c1 := fun w h => Lib.hid (iMatValidW k c p L true w h hk ha)
    have c2 := fun p w h => Lib.hid (iColumn k n c d p q xs 1000000 false w h hn hl (by omega) (by omega) (decide_eq_false (fun hc => hno ⟨ha, by omega, hc.2⟩)))
    clear h hq hk hn hno ha
    go_enter Try.func23, Try.ntmps23
    go_wp2_with (first
      | (go_at_call 33; (with_reducible refine ((c1 _ ?_).out).mono ?_); (focus (exact H.out.1; done)); rintro e w' ⟨rfl, rfl⟩)
      | (go_at_call 49; (with_reducible refine ((c2 _ _ ?_).out).mono ?_); (focus (exact H.out.2; done)); rintro e w' ⟨rfl, rfl⟩))
    refine bodyPost_ret (v := .tuple #[.slice none 0 0, .bool false]) (by simp [results, Try.results23, go_sem]) rfl ⟨⟨_, _, rfl⟩, Below.refl _ _⟩
set_option maxHeartbeats 4000000 in
set_option maxRecDepth 100000 in
theorem iMatSolve_yes (k c d : Nat) (p q : Option Addr) (L : List (List Int)) (xs : List Int) (w : World) (h : GRead w p L) (hq : Ints w q xs) (hk : L.length = k) (hok : slvOk L xs) :
    Calls Try.prog 28 #[.slice p k c, .slice q k d] w fun e w' => ∃ g cap, e = .returned (.tuple #[.slice (some ⟨g, 0, none⟩) k cap, .int .i64 (det k (ent L)), .bool true]) ∧ w.heap.size ≤ g ∧ Own w' g 3 1 k cap (slL k L xs) ∧ Below w.heap.size w w' := by
  obtain ⟨hm, hl, hdt, hx⟩ := hok
  rw [hk] at hdt
  have hk5 : k ≤ 5 := by have := (matOk_true.1 hm).2.1; omega
  have hs : Sq k L := by rw [← hk]; exact matOk.sq hm
  have hsm : SmE k 1000 (ent L) := by rw [← hk]; exact matOk.small hm
  have hn : xs.length = k := by omega
  have c1 := fun w h => Lib.hid (iMatValidW k c p L true w h hk hm)
  have c2 := fun p w h => Lib.hid (iColumn k k c d p q xs 1000 true w h hn (by omega) (by omega) (by omega) (decide_eq_true ⟨rfl, hx⟩))
  have c3 := fun w h => Lib.hid (iDet k c p L w h hs hk5 hsm)
  have c4 := fun j w h hq hj => Lib.hid (iWith k c d j p q L xs w h hq hs hn hk5 hj)
  have c5 := fun j g w h => Lib.hid (iDet k k (some ⟨g, 0, none⟩) (putL k L j xs) w h mkL_sq hk5 (put_small hsm hn hx))
  have hpd : ∀ j, det k (ent (putL k L j xs)) = det k (upc (ent L) j (num xs)) := fun j => det_mkL _
  have c5 := fun j g w h => Lib.hid (by have := (c5 j g w h).out; rw [hpd] at this; exact this)
  have hmk := fun w => made_ints w k (by omega)
  obtain ⟨D, hD⟩ : ∃ D, det k (ent L) = D := ⟨_, rfl⟩
  rw [hD] at c3 hdt ⊢
  have hdt' : ¬ D = 0 := hdt
  have H := Lib.hid (And.intro h hq)
  clear h hq hk hm hl hx hs hsm hn hdt hD hpd
  go_enter Try.func28, Try.ntmps28
  go_wp2_with (first
    | (go_at_call 33; (with_reducible refine ((c1 _ ?_).out).mono ?_); (focus (exact H.out.1; done)); rintro e w' ⟨rfl, rfl⟩)
    | (go_at_call 49; (with_reducible refine ((c2 _ _ ?_).out).mono ?_); (focus (exact H.out.2; done)); rintro e w' ⟨rfl, rfl⟩)
    | (go_at_call 45; (with_reducible refine ((c3 _ ?_).out).mono ?_); (focus (exact H.out.1; done)); rintro e w2 ⟨rfl, hb_w2⟩))
  clear hmk c1 c2 c3
  have e0 : (D == 0) = false := by simpa using hdt'
  rw [e0]
  have hws := hb_w2.size
  have H0 : Hid (Own (w2.alloc (.cells (madeCells (Array.replicate 1 (.int .i64 0)) (k * 1)) 3)) w2.heap.size 3 1 k k (prow k 0 (fun j => det k (upc (ent L) j (num xs))))) := Lib.hid (by
    have ho := Own.made w2 3 k 1 (by decide) (by unfold maxLen; omega)
    rw [prow_zero]; rw [Nat.mul_one] at ho ⊢; exact ho)
  go_loopw [30] (fun i wr => ∃ x : Nat, x ≤ k ∧ i = .int .i64 x ∧ Own wr w2.heap.size 3 1 k k (prow k x (fun j => det k (upc (ent L) j (num xs)))) ∧ Below w.heap.size w wr) (fun i _ => k - (intOf i).toNat)
  case atStart => exact ⟨0, Nat.zero_le _, rfl, by simpa using H0.out, hb_w2.alloc hws _⟩
  case round =>
    clear H0
    rename World => wr
    obtain ⟨x, hx, rfl, ho, hb⟩ := hrel
    have hlo := ho.lt
    have hbs := hb.size
    by_cases hlt : x < k
    · have hlt' : (x : Int) < (k : Int) := by omega
      obtain ⟨z0, hz0⟩ : ∃ z, (prow k x (fun j => det k (upc (ent L) j (num xs))))[x]? = some z := ⟨_, List.getElem?_eq_getElem (by rw [prow_len _ hx]; exact hlt)⟩
      have r0 := ho.cells hz0
      have f0 := ho.frozen x
      have c6 := fun w h hq => Lib.hid (c4 x w h hq hlt).out
      have c7 := fun g w h => Lib.hid (c5 x g w h).out
      have HX := Lib.hid (And.intro ho (And.intro hb (And.intro (H.out.1.below hb) (H.out.2.below hb))))
      clear ho hb hz0 c4 c5
      go_wp2_with (first
        | (go_at_call 52; (with_reducible refine ((c6 _ ?_ ?_).out).mono ?_); (focus (exact HX.out.2.2.1; done)); (focus (exact HX.out.2.2.2; done)); rintro e w3 ⟨g, bs, rfl, hg_w3, hb_w3⟩; have HG := Lib.hid (And.intro hg_w3 hb_w3); have r1 := cell_below_keep hb_w3 r0; have f1 := frozen_below_keep hb_w3 r0 f0; clear hg_w3)
        | (go_at_call 45; (with_reducible refine ((c7 _ _ ?_).out).mono ?_); (focus (exact HG.out.1.read; done)); rintro e w4 ⟨rfl, hb_w4⟩; have r2 := cell_below_keep hb_w4 r1; have f2 := frozen_below_keep hb_w4 r1 f1))
      have hB : Below wr.heap.size wr w4 := hb_w3.trans (hb_w4.mono hb_w3.size)
      have hst := (HX.out.1.below hB).set x (det k (upc (ent L) x (num xs))) (by rw [prow_len _ hx]; exact hlt)
      rw [prow_set (fun j => det k (upc (ent L) j (num xs))) hlt] at hst
      go_roundw
      case rel => exact ⟨x + 1, by omega, by go_num, hst, (HX.out.2.1.trans (hB.mono hbs)).setCell (p := ⟨w2.heap.size, x, none⟩) hws _⟩
      case measure => simp [intOf]; omega
    · have e : x = k := by omega
      subst e
      rw [prow_done] at ho
      have HX := Lib.hid (And.intro ho hb)
      clear ho hb
      go_wp2_with fail
      refine bodyPost_ret (v := .tuple #[.slice (some ⟨w2.heap.size, 0, none⟩) x x, .int .i64 D, .bool true]) (by simp [results, Try.results28, go_sem]) rfl ⟨w2.heap.size, x, rfl, hws, HX.out.1, HX.out.2⟩
theorem iMatSolve_no (k n c d : Nat) (p q : Option Addr) (L : List (List Int)) (xs : List Int) (w : World) (h : GRead w p L) (hq : Ints w q xs) (hk : L.length = k) (hn : xs.length = n) (hl : k ≤ 4000000000000000000) (hl2 : n ≤ 4000000000000000000) (hno : ¬ slvOk L xs) :
    Calls Try.prog 28 #[.slice p k c, .slice q n d] w fun e w' => (∃ q d, e = .returned (.tuple #[.slice q 0 d, .int .i64 0, .bool false])) ∧ Below w.heap.size w w' := by
  have H := Lib.hid (And.intro h hq)
  cases ha : matOk L
  · have c1 := fun w h => Lib.hid (iMatValidW k c p L false w h hk ha)
    clear h hq hk hn hno ha
    go_enter Try.func28, Try.ntmps28
    go_wp2_with (go_at_call 33; (with_reducible refine ((c1 _ ?_).out).mono ?_); (focus (exact H.out.1; done)); rintro e w' ⟨rfl, rfl⟩)
    refine bodyPost_ret (v := .tuple #[.slice none 0 0, .int .i64 0, .bool false]) (by simp [results, Try.results28, go_sem]) rfl ⟨⟨_, _, rfl⟩, Below.refl _ _⟩
  · have c1 := fun w h => Lib.hid (iMatValidW k c p L true w h hk ha)
    by_cases hcv : n = k ∧ ∀ z ∈ xs, -1000 ≤ z ∧ z ≤ 1000
    · have c2 := fun p w h => Lib.hid (iColumn k n c d p q xs 1000 true w h hn hl (by omega) (by omega) (decide_eq_true hcv))
      have hk5 : k ≤ 5 := by have := (matOk_true.1 ha).2.1; omega
      have c3 := fun w h => Lib.hid (iDet k c p L w h (by rw [← hk]; exact matOk.sq ha) hk5 (by rw [← hk]; exact matOk.small ha))
      have hD : det k (ent L) = 0 := Classical.byContradiction (fun e => hno ⟨ha, by rw [hn, hk, hcv.1], by rw [hk]; exact e, hcv.2⟩)
      rw [hD] at c3
      clear h hq hk hn hno ha hcv hD
      go_enter Try.func28, Try.ntmps28
      go_wp2_with (first
        | (go_at_call 33; (with_reducible refine ((c1 _ ?_).out).mono ?_); (focus (exact H.out.1; done)); rintro e w' ⟨rfl, rfl⟩)
        | (go_at_call 49; (with_reducible refine ((c2 _ _ ?_).out).mono ?_); (focus (exact H.out.2; done)); rintro e w' ⟨rfl, rfl⟩)
        | (go_at_call 45; (with_reducible refine ((c3 _ ?_).out).mono ?_); (focus (exact H.out.1; done)); rintro e w2 ⟨rfl, hb_w2⟩))
      refine bodyPost_ret (v := .tuple #[.slice none 0 0, .int .i64 0, .bool false]) (by simp [results, Try.results28, go_sem]) rfl ⟨⟨_, _, rfl⟩, hb_w2⟩
    · have c2 := fun p w h => Lib.hid (iColumn k n c d p q xs 1000 false w h hn hl (by omega) (by omega) (decide_eq_false hcv))
      clear h hq hk hn hno ha hcv
      go_enter Try.func28, Try.ntmps28
      go_wp2_with (first
        | (go_at_call 33; (with_reducible refine ((c1 _ ?_).out).mono ?_); (focus (exact H.out.1; done)); rintro e w' ⟨rfl, rfl⟩)
        | (go_at_call 49; (with_reducible refine ((c2 _ _ ?_).out).mono ?_); (focus (exact H.out.2; done)); rintro e w' ⟨rfl, rfl⟩))
      refine bodyPost_ret (v := .tuple #[.slice none 0 0, .int .i64 0, .bool false]) (by simp [results, Try.results28, go_sem]) rfl ⟨⟨_, _, rfl⟩, Below.refl _ _⟩
end Go.Proofs.Ythpfhbogpnhgmaa
