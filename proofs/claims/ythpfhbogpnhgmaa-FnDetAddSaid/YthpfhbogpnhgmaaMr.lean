/-
  The program's matrices copied, turned and multiplied; MatTurn.
-/
import Derived.Test.YthpfhbogpnhgmaaMo
namespace Go.Proofs.Ythpfhbogpnhgmaa
open Go.RowKit
set_option linter.unusedVariables false

theorem moC' (b k c : Nat) (p : Option Addr) (L : List (List Int)) (w : World) (hc : w.cell? ⟨b, 0, none⟩ = some (.slice p k c)) (h : GRead w p L) (hs : Sq k L) (hk : k ≤ 5) :
    Calls Try.prog 58 #[.int .i64 k, .func (.func 62) #[] #[.pointer (some ⟨b, 0, none⟩)]] w fun e w' => ∃ bs, e = .returned (.slice (some ⟨w.heap.size, 0, none⟩) k k) ∧ GridO w' 3 29 w.heap.size w.heap.size k bs L ∧ Below w.heap.size w w' := by
  have := moC k b (ent L) w hk (fun i j W hi hj hb => (cCopied b k c i j p L W (cell_below_keep hb hc) (h.below hb) hs hi hj).mono (by rintro e w' ⟨rfl, rfl⟩; exact ⟨rfl, Below.refl _ _⟩))
  rw [← hs.mk] at this
  exact this
theorem moT' (b k c : Nat) (p : Option Addr) (L : List (List Int)) (w : World) (hc : w.cell? ⟨b, 0, none⟩ = some (.slice p k c)) (h : GRead w p L) (hs : Sq k L) (hk : k ≤ 5) :
    Calls Try.prog 58 #[.int .i64 k, .func (.func 59) #[] #[.pointer (some ⟨b, 0, none⟩)]] w fun e w' => ∃ bs, e = .returned (.slice (some ⟨w.heap.size, 0, none⟩) k k) ∧ GridO w' 3 29 w.heap.size w.heap.size k bs (mkL k (trn (ent L))) ∧ Below w.heap.size w w' :=
  moT k b (trn (ent L)) w hk (fun i j W hi hj hb => (cTurned b k c i j p L W (cell_below_keep hb hc) (h.below hb) hs hi hj).mono (by rintro e w' ⟨rfl, rfl⟩; exact ⟨rfl, Below.refl _ _⟩))
theorem moM' (b b2 k c c2 : Nat) (p p2 : Option Addr) (A B : List (List Int)) (w : World) (hc : w.cell? ⟨b, 0, none⟩ = some (.slice p k c)) (hc2 : w.cell? ⟨b2, 0, none⟩ = some (.slice p2 k c2)) (h : GRead w p A) (h2 : GRead w p2 (mkL k (trn (ent B)))) (hs : Sq k A) (hk : k ≤ 5) (hm : SmE k 1000 (ent A)) (hm2 : SmE k 1000 (ent B)) :
    Calls Try.prog 58 #[.int .i64 k, .func (.func 60) #[] #[.pointer (some ⟨b, 0, none⟩), .pointer (some ⟨b2, 0, none⟩)]] w fun e w' => ∃ bs, e = .returned (.slice (some ⟨w.heap.size, 0, none⟩) k k) ∧ GridO w' 3 29 w.heap.size w.heap.size k bs (mkL k (mul k (ent A) (ent B))) ∧ Below w.heap.size w w' :=
  moM k b b2 (mul k (ent A) (ent B)) w hk (fun i j W hi hj hb => (cTimes b b2 k c c2 i j p p2 A _ W (cell_below_keep hb hc) (cell_below_keep hb hc2) (h.below hb) (h2.below hb) hs mkL_sq hk hm (fun x y hx hy => by rw [ent_mkL hx hy]; exact hm2 y x hy hx) hi hj).mono (by
    rintro e w' ⟨rfl, hb'⟩
    exact ⟨by rw [show smn k (fun t => ent A i t * ent (mkL k (trn (ent B))) j t) = mul k (ent A) (ent B) i j from sm_congr (fun t ht => by rw [ent_mkL hj ht]; rfl)], hb'⟩))
/-- what a call that makes a matrix answers -/
def Made (w : World) (k : Nat) (L : List (List Int)) (e : Ending) (w' : World) : Prop :=
  ∃ g bs, e = .returned (.slice (some ⟨g, 0, none⟩) k k) ∧ GridO w' 3 29 w.heap.size g k bs L ∧ Below w.heap.size w w'
theorem iCopied (k c : Nat) (p : Option Addr) (L : List (List Int)) (w : World) (h : GRead w p L) (hs : Sq k L) (hk : k ≤ 5) :
    Calls Try.prog 55 #[.slice p k c] w (Made w k L) := by
  have c1 := fun b W hc h => Lib.hid (moC' b k c p L W hc h hs hk)
  have H := Lib.hid h
  have hb0 := Lib.hid ((Below.refl w.heap.size w).alloc (Nat.le_refl _) (.cells #[.slice p k c] 53))
  clear h hs
  go_enter Try.func55, Try.ntmps55
  go_wp2_with (go_at_call 58; (with_reducible refine ((c1 _ _ ?_ ?_).out).mono ?_); (focus (first | rfl | (simp [go_sem]; done))); (focus (exact H.out.below hb0.out; done)); rintro e w2 ⟨bs, rfl, hg_w2, hb_w2⟩; have HG := Lib.hid (And.intro hg_w2 hb_w2); clear hg_w2 hb_w2)
  go_ret
  have hl : w.heap.size ≤ (w.alloc (.cells #[.slice p k c] 53)).heap.size := by simp
  exact ⟨_, bs, rfl, by have := HG.out.1.mono hl; simpa using this, hb0.out.trans (HG.out.2.mono hl)⟩
theorem iTurned (k c : Nat) (p : Option Addr) (L : List (List Int)) (w : World) (h : GRead w p L) (hs : Sq k L) (hk : k ≤ 5) :
    Calls Try.prog 47 #[.slice p k c] w (Made w k (mkL k (trn (ent L)))) := by
  have c1 := fun b W hc h => Lib.hid (moT' b k c p L W hc h hs hk)
  have H := Lib.hid h
  have hb0 := Lib.hid ((Below.refl w.heap.size w).alloc (Nat.le_refl _) (.cells #[.slice p k c] 53))
  clear h hs
  go_enter Try.func47, Try.ntmps47
  go_wp2_with (go_at_call 58; (with_reducible refine ((c1 _ _ ?_ ?_).out).mono ?_); (focus (first | rfl | (simp [go_sem]; done))); (focus (exact H.out.below hb0.out; done)); rintro e w2 ⟨bs, rfl, hg_w2, hb_w2⟩; have HG := Lib.hid (And.intro hg_w2 hb_w2); clear hg_w2 hb_w2)
  go_ret
  have hl : w.heap.size ≤ (w.alloc (.cells #[.slice p k c] 53)).heap.size := by simp
  exact ⟨_, bs, rfl, by have := HG.out.1.mono hl; simpa using this, hb0.out.trans (HG.out.2.mono hl)⟩
theorem iTimesM (k c d : Nat) (p q : Option Addr) (A B : List (List Int)) (w : World) (h : GRead w p A) (hq : GRead w q B) (hs : Sq k A) (hs2 : Sq k B) (hk : k ≤ 5) (hm : SmE k 1000 (ent A)) (hm2 : SmE k 1000 (ent B)) :
    Calls Try.prog 48 #[.slice p k c, .slice q k d] w (Made w k (mkL k (mul k (ent A) (ent B)))) := by
  have c1 := fun W h => Lib.hid (iTurned k d q B W h hs2 hk)
  have c2 := fun b b2 c2 p2 W hc hc2 h h2 => Lib.hid (moM' b b2 k c c2 p p2 A B W hc hc2 h h2 hs hk hm hm2)
  have H := Lib.hid (And.intro h hq)
  have hb0 := Lib.hid ((Below.refl w.heap.size w).alloc (Nat.le_refl _) (.cells #[.slice p k c] 53))
  have hc0 : (w.alloc (.cells #[.slice p k c] 53)).cell? ⟨w.heap.size, 0, none⟩ = some (.slice p k c) := by simp [go_sem]
  clear h hq hs hs2 hm hm2
  go_enter Try.func48, Try.ntmps48
  go_wp2_with (first
    | (go_at_call 47; (with_reducible refine ((c1 _ ?_).out).mono ?_); (focus (exact H.out.2.below hb0.out; done)); rintro e w2 ⟨g, bs, rfl, hg_w2, hb_w2⟩; have HG := Lib.hid (And.intro hg_w2 hb_w2); have hc2 := cell_below_keep hb_w2 hc0; have hbW : Below w.heap.size w (w2.alloc (.cells #[.slice (some ⟨g, 0, none⟩) k k] 53)) := (hb0.out.trans (hb_w2.mono (show w.heap.size ≤ (w.alloc (.cells #[.slice p k c] 53)).heap.size by simp))).alloc (by have := hb_w2.size; simp at this; omega) _; have HB := Lib.hid hbW; have hc3 := cell_below_keep ((Below.refl w2.heap.size w2).alloc (Nat.le_refl _) (.cells #[.slice (some ⟨g, 0, none⟩) k k] 53)) hc2; clear hg_w2 hbW)
    | (go_at_call 58; (with_reducible refine ((c2 _ _ k (some ⟨g, 0, none⟩) _ ?_ ?_ ?_ ?_).out).mono ?_); (focus (exact hc3; done)); (focus (first | rfl | (simp [go_sem]; done))); (focus (exact H.out.1.below HB.out; done)); (focus (exact HG.out.1.read.alloc _; done)); rintro e w4 ⟨bs2, rfl, hg_w4, hb_w4⟩; have HK := Lib.hid (And.intro hg_w4 hb_w4); clear hg_w4 hb_w4))
  go_ret
  have hl : w.heap.size ≤ (w2.alloc (.cells #[.slice (some ⟨g, 0, none⟩) k k] 53)).heap.size := HB.out.size
  exact ⟨_, bs2, rfl, by have := HK.out.1.mono hl; simpa using this, HB.out.trans (HK.out.2.mono hl)⟩
end Go.Proofs.Ythpfhbogpnhgmaa
