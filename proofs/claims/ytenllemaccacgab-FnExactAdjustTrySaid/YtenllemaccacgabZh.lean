/-
  The map of neighbors that a net's runs give.
  The nodes that are linked with a node, collected by impl.linked.
  What impl.NetLinked answers.
  What NetWhole and NetLoops answer, in both programs.
  What NetLoops answers, in both programs.
  How the laws on draws compare lists; what labels have in common.
  How many least nodes there are with one run less. No function of the program is named.
  The first tree of a net is one. No function of the program is named.
-/
import Derived.Test.YtenllemaccacgabZa
import Derived.Test.YtenllemaccacgabZf
import Derived.Test.YtenllemaccacgabZg
import Derived.Deep.DeepCutAuto
namespace Go.Proofs.Ytenllemaccacgab
open Go.RowKit
set_option linter.unusedVariables false

theorem kp {L : Array Bool} {i j : Nat} (h : (L.setIfInBounds i true).getD j true = true) (hne : i ≠ j) : L.getD j true = true := by rwa [getD_set_ne true hne] at h
theorem kpf {L : Array Bool} {i j : Nat} (h : (L.setIfInBounds i true).getD j true = false) (hne : i ≠ j) : L.getD j true = false := by rwa [getD_set_ne true hne] at h
theorem tf {L : Array Bool} {i : Nat} (h : L.getD i false = true) : L.getD i true = true := by
  by_cases hi : i < L.size
  · simp [hi] at h ⊢; exact h
  · simp [hi] at h
theorem keyInt : Maps.Keyed Try.prog 3 := Maps.int_keyed Try.underlying3
theorem zeroInts (w : World) : (zeroValue 35).run Try.prog w = .ok (.slice none 0 0) w := by kernel_rfl
theorem zeroBool (w : World) : (zeroValue 4).run Try.prog w = .ok (.bool false) w := by kernel_rfl
theorem wf_node {x : Int} (h0 : 0 ≤ x) (h1 : x < 100) : (Lit.int .i64 x).wf = true := WalkArith.wf_i64 (by omega)

end Go.Proofs.Ytenllemaccacgab
namespace Go.Proofs.Ytenllemaccacgab
open Go.RowKit
set_option linter.unusedVariables false

def inV (F : List Int) (i : Int) : Value := .bool (decide (i ∈ F))
theorem inV_add (F : List Int) (y : Int) : upd (inV F) y (.bool true) = inV (F ++ [y]) := by
  funext i
  by_cases e : i = y
  · subst e; simp [upd, inV]
  · simp [upd, inV, e]
theorem inV_one (y : Int) : upd (fun _ => Value.bool false) y (.bool true) = inV [y] := by
  funext i
  by_cases e : i = y
  · subst e; simp [upd, inV]
  · simp [upd, inV, e]

end Go.Proofs.Ytenllemaccacgab
namespace Go.Proofs.Ytenllemaccacgab
open Go.RowKit
set_option linter.unusedVariables false

/-- the first k labels are right -/
def labTo (n : Int) (rs : List Rn) (k : Nat) (L : List Int) : Prop := ∀ i : Int, 0 ≤ i → i < k → Lst n rs i (htAt L i)
theorem labTo_succ {n : Int} {rs : List Rn} {k : Nat} {L : List Int} {m : Int} (h : labTo n rs k L) (hk : k < L.length) (hm : Lst n rs k m) : labTo n rs (k + 1) (L.set k m) := fun i h0 h1 => by
  by_cases e : i = k
  · subst e
    have : htAt (L.set k m) k = m := by simp [htAt, hk]
    rw [this]; exact hm
  · have hne : ¬ k = i.toNat := by omega
    have : htAt (L.set k m) i = htAt L i := by simp [htAt, hne]
    rw [this]; exact h i h0 (by omega)

end Go.Proofs.Ytenllemaccacgab
namespace Go.Proofs.Ytenllemaccacgab
open Go.RowKit
set_option linter.unusedVariables false

theorem lab_exists (N : Nat) (rs : List Rn) : ∃ L, IsLab N rs L := by
  have key : ∀ k, k ≤ N → ∃ L : List Int, L.length = k ∧ ∀ i : Nat, i < k → Lst N rs i (htAt L i) := by
    intro k
    induction k with
    | zero => intro _; exact ⟨[], rfl, fun i h => by omega⟩
    | succ k ih =>
      intro hk
      obtain ⟨L, hl, hL⟩ := ih (by omega)
      obtain ⟨m, hm⟩ := Lst.exists N rs (i := (k : Int)) (by omega) (by omega)
      refine ⟨L ++ [m], by simp [hl], fun i hi => ?_⟩
      by_cases e : i = k
      · subst e
        have : htAt (L ++ [m]) i = m := by simp [htAt, ← hl]
        rw [this]; exact hm
      · have hlt : i < L.length := by omega
        have : htAt (L ++ [m]) i = htAt L i := by simp [htAt, List.getElem?_append_left hlt]
        rw [this]; exact hL i (by omega)
  obtain ⟨L, hl, hL⟩ := key N (Nat.le_refl _)
  exact ⟨L, by omega, fun i h0 h1 => by
    have := hL i.toNat (by omega)
    rwa [show ((i.toNat : Nat) : Int) = i by omega] at this⟩
theorem labs_is (N : Nat) (rs : List Rn) : IsLab N rs (labs N rs) := by
  obtain ⟨L, hL⟩ := lab_exists N rs
  rw [← labs_eq hL]; exact hL
theorem labs_len (N : Nat) (rs : List Rn) : (labs N rs).length = N := by have := (labs_is N rs).len; omega
theorem labs_pos {N : Nat} {rs : List Rn} {i : Nat} {z : Int} (h : (labs N rs)[i]? = some z) : 0 ≤ z ∧ z ≤ i := by
  have hlt := (List.getElem?_eq_some_iff.1 h).1
  rw [labs_len] at hlt
  have := (labs_is N rs).lst i (by omega) (by omega)
  rw [htAt_nat h] at this
  exact ⟨this.lo, this.le⟩

noncomputable def nWhole (n : Int) (rs : List Rn) : Bool := nOk n rs && (labs n rs).all (fun z => decide (z = 0))
def roots (L : List Int) : Nat → Nat
  | 0 => 0
  | k + 1 => roots L k + if htAt L k = k then 1 else 0
theorem roots_le (L : List Int) : ∀ k, roots L k ≤ k
  | 0 => Nat.le_refl _
  | k + 1 => by have := roots_le L k; simp only [roots]; split <;> omega
noncomputable def nLoops (n : Int) (rs : List Rn) : Int := if nOk n rs then rs.length - n + roots (labs n rs) n.toNat else -1

theorem all_zero {N : Nat} {rs : List Rn} {m : Int} (hm : m ∈ labs N rs) (hmax : ∀ x ∈ labs N rs, x ≤ m) : (labs N rs).all (fun z => decide (z = 0)) = decide (m = 0) := by
  by_cases h : m = 0
  · rw [decide_eq_true h, List.all_eq_true]
    intro x hx
    obtain ⟨i, hi⟩ := List.getElem?_of_mem hx
    have := labs_pos hi
    have := hmax x hx
    simp; omega
  · rw [decide_eq_false h, Bool.eq_false_iff]
    intro ha
    rw [List.all_eq_true] at ha
    have := ha m hm
    simp at this
    exact h this

end Go.Proofs.Ytenllemaccacgab
namespace Go.Proofs.Ytenllemaccacgab
open Go.RowKit
set_option linter.unusedVariables false

theorem nLoops_yes {N : Nat} {rs : List Rn} (h : nOk N rs = true) : nLoops N rs = (rs.length : Int) - N + roots (labs N rs) N := by
  unfold nLoops; rw [if_pos h]; simp
theorem nLoops_no {n : Int} {rs : List Rn} (h : nOk n rs = false) : nLoops n rs = -1 := by unfold nLoops; simp [h]
theorem roots_hit {L : List Int} {k : Nat} {z : Int} (hz : L[k]? = some z) : roots L (k + 1) = roots L k + if (k : Int) = z then 1 else 0 := by
  simp only [roots, htAt_nat hz]
  by_cases e : (k : Int) = z
  · simp [e]
  · have : ¬ z = (k : Int) := fun e' => e e'.symm
    simp [e, this]

end Go.Proofs.Ytenllemaccacgab
namespace Go.Proofs.Ytenllemaccacgab
open Go.RowKit
set_option linter.unusedVariables false

def allTo (L : List Int) : Nat → Bool
  | 0 => true
  | k + 1 => allTo L k && decide (htAt L k = 0)
theorem allTo_take (L : List Int) : ∀ k, k ≤ L.length → allTo L k = (L.take k).all (fun z => decide (z = 0))
  | 0, _ => by simp [allTo]
  | k + 1, h => by
    have hk : k < L.length := by omega
    rw [allTo, allTo_take L k (by omega), List.take_add_one, List.getElem?_eq_getElem hk, htAt_nat (List.getElem?_eq_getElem hk), List.all_append]
    simp only [Option.toList, List.all_cons, List.all_nil, Bool.and_true]
theorem allTo_len (L : List Int) : allTo L L.length = L.all (fun z => decide (z = 0)) := by rw [allTo_take L _ (Nat.le_refl _), List.take_length]
/-- what the law asks of the labels -/
structure LabOk (rs : List Rn) (zs : List Int) : Prop where
  node : ∀ i : Nat, i < zs.length → ∃ a : Nat, zs[i]? = some (a : Int) ∧ a ≤ i ∧ zs[a]? = some (a : Int)
  run : ∀ (i : Nat) (r : Rn), rs[i]? = some r → ∃ (a b : Nat) (y : Int), r.f = (a : Int) ∧ r.t = (b : Int) ∧ a < zs.length ∧ b < zs.length ∧ zs[a]? = some y ∧ zs[b]? = some y
theorem lab_ok {N : Nat} {rs : List Rn} (h : nOk N rs = true) : LabOk rs (labs N rs) := by
  have hl := labs_len N rs
  have hL := labs_is N rs
  refine ⟨fun i hi => ?_, fun i r hr => ?_⟩
  · have h1 := hL.lst i (by omega) (by omega)
    have e1 := htAt_get (L := labs N rs) (x := (i : Int)) (by omega) (by omega)
    rw [Int.toNat_natCast] at e1
    obtain ⟨a, ha⟩ : ∃ a : Nat, htAt (labs N rs) i = (a : Int) := ⟨(htAt (labs N rs) i).toNat, by have := h1.lo; omega⟩
    rw [ha] at h1 e1
    have hai := h1.le
    have h2 := hL.lst a (by omega) (by omega)
    have e2 := htAt_get (L := labs N rs) (x := (a : Int)) (by omega) (by omega)
    rw [Int.toNat_natCast] at e2
    have : (a : Int) = htAt (labs N rs) a := Lst.of_same (by omega) (by omega) h1 h2 h1.same.symm
    rw [← this] at e2
    exact ⟨a, e1, by omega, e2⟩
  · obtain ⟨a1, a2, a3, a4, -⟩ := rOk_true ((nOk_true h).2.2.2 i r hr)
    have e1 := htAt_get (L := labs N rs) a1 (by omega)
    have e2 := htAt_get (L := labs N rs) a3 (by omega)
    have : htAt (labs N rs) r.f = htAt (labs N rs) r.t := Lst.of_same a2 a4 (hL.lst _ a1 a2) (hL.lst _ a3 a4) (Same.run (List.mem_of_getElem? hr))
    rw [← this] at e2
    exact ⟨r.f.toNat, r.t.toNat, _, by omega, by omega, by omega, by omega, e1, e2⟩
end Go.Proofs.Ytenllemaccacgab
namespace Go.Proofs.Ytenllemaccacgab
set_option linter.unusedVariables false

theorem roots_ext {L L' : List Int} : ∀ k : Nat, (∀ i : Nat, i < k → (htAt L i = i ↔ htAt L' i = i)) → roots L k = roots L' k
  | 0, _ => rfl
  | k + 1, h => by
    simp only [roots]
    rw [roots_ext k (fun i hi => h i (by omega))]
    by_cases e : htAt L k = k
    · rw [if_pos e, if_pos ((h k (by omega)).1 e)]
    · rw [if_neg e, if_neg (fun e' => e ((h k (by omega)).2 e'))]
/-- one root less, at c -/
theorem roots_drop {L L' : List Int} (c : Nat) : ∀ k : Nat, (∀ i : Nat, i < k → i ≠ c → (htAt L i = i ↔ htAt L' i = i)) → htAt L c = c → htAt L' c ≠ c → c < k → roots L k = roots L' k + 1
  | 0, _, _, _, h => by omega
  | k + 1, h, h1, h2, hc => by
    simp only [roots]
    by_cases e : k = c
    · subst e
      rw [roots_ext (L := L) (L' := L') k (fun i hi => h i (by omega) (by omega)), if_pos h1, if_neg h2]
    · rw [roots_drop c k (fun i hi hne => h i (by omega) hne) h1 h2 (by omega)]
      by_cases e2 : htAt L k = k
      · rw [if_pos e2, if_pos ((h k (by omega) e).1 e2)]; try omega
      · rw [if_neg e2, if_neg (fun e' => e2 ((h k (by omega) e).2 e'))]; try omega

theorem Same.snoc {rs : List Rn} {r : Rn} {i j : Int} (h : Same (rs ++ [r]) i j) (hr : Same rs r.f r.t) : Same rs i j := fun g hg => h g (fun r' hr' => by
  rcases List.mem_append.1 hr' with h' | h'
  · exact hg r' h'
  · simp at h'; subst h'; exact hr g hg)
theorem htAt_map (L : List Int) (f : Int → Int) {i : Int} (h0 : 0 ≤ i) (h1 : i < L.length) : htAt (L.map f) i = f (htAt L i) := by
  have := htAt_get h0 h1
  show ((L.map f)[i.toNat]?).getD 0 = _
  rw [List.getElem?_map, this]
  rfl
section
variable {N : Nat} {rs : List Rn} {r : Rn}
theorem same_more {i j : Int} (h : Same rs i j) : Same (rs ++ [r]) i j := h.mono (fun r' h' => List.mem_append_left _ h')
/-- the run is in a loop: nothing turns -/
theorem labs_loop (h0 : 0 ≤ r.f) (h1 : r.f < N) (h2 : 0 ≤ r.t) (h3 : r.t < N) (he : htAt (labs N rs) r.f = htAt (labs N rs) r.t) : labs N (rs ++ [r]) = labs N rs := by
  have L := labs_is N rs
  have hs : Same rs r.f r.t := (L.lst _ h0 h1).same.symm.trans (by rw [he]; exact (L.lst _ h2 h3).same)
  have : IsLab N (rs ++ [r]) (labs N rs) := ⟨L.len, fun i hi hi' => by
    have := L.lst i hi hi'
    exact ⟨this.lo, this.le, same_more this.same, fun x hx hx' hsx => this.min x hx hx' (hsx.snoc hs)⟩⟩
  exact (labs_eq this).symm
def join (al be : Int) (z : Int) : Int := if z = be then al else z
/-- the run links: what was linked with be is now linked with al -/
theorem labs_link (hok : ∀ r' ∈ rs ++ [r], 0 ≤ r'.f ∧ r'.f < (N : Int) ∧ 0 ≤ r'.t ∧ r'.t < (N : Int)) {al be : Int} (hlt : al < be)
    (he : (htAt (labs N rs) r.f = al ∧ htAt (labs N rs) r.t = be) ∨ (htAt (labs N rs) r.f = be ∧ htAt (labs N rs) r.t = al)) : labs N (rs ++ [r]) = (labs N rs).map (join al be) := by
  have L := labs_is N rs
  have hl := labs_len N rs
  obtain ⟨q0, q1, q2, q3⟩ := hok r (by simp)
  have lf := L.lst _ q0 q1
  have lt := L.lst _ q2 q3
  have hab : Same (rs ++ [r]) al be := by
    have sr : Same (rs ++ [r]) r.f r.t := Same.run (by simp)
    have sf := same_more (r := r) lf.same
    have st := same_more (r := r) lt.same
    rcases he with ⟨e1, e2⟩ | ⟨e1, e2⟩ <;> rw [e1] at sf <;> rw [e2] at st
    · exact (sf.trans sr).trans st.symm
    · exact ((sf.trans sr).trans st.symm).symm
  have hal : 0 ≤ al := by rcases he with ⟨e1, e2⟩ | ⟨e1, e2⟩; exact e1 ▸ lf.lo; exact e2 ▸ lt.lo
  have hm : ∀ i : Int, 0 ≤ i → i < N → htAt ((labs N rs).map (join al be)) i = join al be (htAt (labs N rs) i) := fun i h0 h1 => htAt_map _ _ h0 (by omega)
  have hle : ∀ i : Int, 0 ≤ i → i < N → join al be (htAt (labs N rs) i) ≤ i := fun i h0 h1 => by
    have := (L.lst i h0 h1).le
    unfold join; split <;> omega
  have hconst : ∀ x i : Int, Same (rs ++ [r]) x i → (join al be (htAt (labs N rs) x) = join al be (htAt (labs N rs) i)) := fun x i hs => by
    refine (hs (fun y => join al be (htAt (labs N rs) y) = join al be (htAt (labs N rs) i)) (fun r' hr' => ?_)).2 rfl
    rcases List.mem_append.1 hr' with h' | h'
    · obtain ⟨a0, a1, a2, a3⟩ := hok r' hr'
      have : htAt (labs N rs) r'.f = htAt (labs N rs) r'.t := Lst.of_same a1 a3 (L.lst _ a0 a1) (L.lst _ a2 a3) (Same.run h')
      rw [this]
    · simp at h'; subst h'
      have : join al be (htAt (labs N rs) r'.f) = join al be (htAt (labs N rs) r'.t) := by
        rcases he with ⟨e1, e2⟩ | ⟨e1, e2⟩ <;> rw [e1, e2] <;> unfold join
        · rw [if_neg (by omega), if_pos rfl]
        · rw [if_pos rfl, if_neg (by omega)]
      rw [this]
  have : IsLab N (rs ++ [r]) ((labs N rs).map (join al be)) := ⟨by simp [hl], fun i h0 h1 => by
    rw [hm i h0 h1]
    have li := L.lst i h0 h1
    refine ⟨?_, hle i h0 h1, ?_, fun x hx hx' hs => by rw [← hconst x i hs]; exact hle x hx hx'⟩
    · unfold join; split
      · exact hal
      · exact li.lo
    · unfold join; split
      · rename_i e
        exact hab.trans (by rw [← e]; exact same_more li.same)
      · exact same_more li.same⟩
  exact (labs_eq this).symm
theorem roots_link (hok : ∀ r' ∈ rs ++ [r], 0 ≤ r'.f ∧ r'.f < (N : Int) ∧ 0 ≤ r'.t ∧ r'.t < (N : Int)) (hne : htAt (labs N rs) r.f ≠ htAt (labs N rs) r.t) : roots (labs N rs) N = roots (labs N (rs ++ [r])) N + 1 := by
  have L := labs_is N rs
  have hl := labs_len N rs
  obtain ⟨q0, q1, q2, q3⟩ := hok r (by simp)
  have lf := L.lst _ q0 q1
  have lt := L.lst _ q2 q3
  obtain ⟨al, be, hlt, he⟩ : ∃ al be : Int, al < be ∧ ((htAt (labs N rs) r.f = al ∧ htAt (labs N rs) r.t = be) ∨ (htAt (labs N rs) r.f = be ∧ htAt (labs N rs) r.t = al)) := by
    rcases Int.lt_or_gt_of_ne hne with h | h
    · exact ⟨_, _, h, .inl ⟨rfl, rfl⟩⟩
    · exact ⟨_, _, h, .inr ⟨rfl, rfl⟩⟩
  rw [labs_link hok hlt he]
  have hfix : ∀ z i : Int, 0 ≤ i → i < N → htAt (labs N rs) i = z → 0 ≤ z ∧ z < N ∧ htAt (labs N rs) z = z := fun z i h0 h1 e => by
    have li := L.lst i h0 h1
    rw [e] at li
    have hz := li.lo
    have hz' := li.le
    exact ⟨hz, by omega, Lst.of_same (by omega) h1 (L.lst z hz (by omega)) li li.same⟩
  obtain ⟨⟨a0, a1, aa⟩, ⟨b0, b1, bb⟩⟩ : (0 ≤ al ∧ al < N ∧ htAt (labs N rs) al = al) ∧ (0 ≤ be ∧ be < N ∧ htAt (labs N rs) be = be) := by
    rcases he with ⟨e1, e2⟩ | ⟨e1, e2⟩
    · exact ⟨hfix _ _ q0 q1 e1, hfix _ _ q2 q3 e2⟩
    · exact ⟨hfix _ _ q2 q3 e2, hfix _ _ q0 q1 e1⟩
  obtain ⟨c, rfl⟩ : ∃ c : Nat, be = (c : Int) := ⟨be.toNat, by omega⟩
  have hm : ∀ i : Int, 0 ≤ i → i < N → htAt ((labs N rs).map (join al c)) i = join al c (htAt (labs N rs) i) := fun i h0 h1 => htAt_map _ _ h0 (by omega)
  refine roots_drop c N (fun i hi hic => ?_) bb ?_ (by omega)
  · rw [hm i (by omega) (by omega)]
    unfold join
    split
    · rename_i e
      constructor
      · intro e'; omega
      · intro e'
        rw [← e', aa] at e
        omega
    · exact Iff.rfl
  · rw [hm c b0 b1, bb]
    unfold join
    rw [if_pos rfl]
    omega
end
end Go.Proofs.Ytenllemaccacgab
namespace Go.Proofs.Ytenllemaccacgab
set_option linter.unusedVariables false

def runOf (rs : List Rn) (k : Int) : Rn := (rs[k.toNat]?).getD ⟨0, 0, 0, 0⟩
def sub (rs : List Rn) (T : List Int) : List Rn := T.map (runOf rs)
theorem sub_len (rs : List Rn) (T : List Int) : (sub rs T).length = T.length := by simp [sub]
theorem sub_snoc (rs : List Rn) (T : List Int) (k : Nat) {r : Rn} (h : rs[k]? = some r) : sub rs (T ++ [(k : Int)]) = sub rs T ++ [r] := by simp [sub, runOf, h]
theorem runOf_at {rs : List Rn} {z : Int} (h0 : 0 ≤ z) (h1 : z < rs.length) : rs[z.toNat]? = some (runOf rs z) := by
  have hlt : z.toNat < rs.length := by omega
  simp [runOf, List.getElem?_eq_getElem hlt]
structure Asc (n : Nat) (T : List Int) : Prop where
  rng : ∀ z ∈ T, 0 ≤ z ∧ z < (n : Int)
  up : T.Pairwise (· < ·)
theorem Asc.mem_sub {rs : List Rn} {n : Nat} {T : List Int} (h : Asc n T) (hn : n ≤ rs.length) : ∀ r ∈ sub rs T, r ∈ rs := fun r hr => by
  obtain ⟨z, hz, rfl⟩ := List.mem_map.1 hr
  obtain ⟨z0, z1⟩ := h.rng z hz
  exact List.mem_of_getElem? (runOf_at z0 (by omega))
/-- the tree that the first k runs give -/
structure First (N : Nat) (rs : List Rn) (k : Nat) (T : List Int) : Prop where
  asc : Asc k T
  lab : labs N (sub rs T) = labs N (rs.take k)
  cnt : T.length + roots (labs N (sub rs T)) N = N
theorem roots_full {N : Nat} : roots (labs N []) N = N := by
  have : ∀ k : Nat, k ≤ N → roots (labs N []) k = k := by
    intro k
    induction k with
    | zero => intro _; rfl
    | succ k ih =>
      intro hk
      have l := (labs_is N []).lst k (by omega) (by omega)
      have e : htAt (labs N []) k = k := (l.same (fun x => x = (k : Int)) (fun r hr => by simp at hr)).2 rfl
      simp only [roots]
      rw [ih (by omega), if_pos e]
  exact this N (Nat.le_refl _)
theorem First.start (N : Nat) (rs : List Rn) : First N rs 0 [] := ⟨⟨fun z hz => by simp at hz, List.Pairwise.nil⟩, by simp [sub], by simp [sub, roots_full]⟩
section
variable {N : Nat} {rs : List Rn} {k : Nat} {T : List Int} {r : Rn} (hok : ∀ r' ∈ rs, 0 ≤ r'.f ∧ r'.f < (N : Int) ∧ 0 ≤ r'.t ∧ r'.t < (N : Int))
include hok
theorem First.skip (h : First N rs k T) (hr : rs[k]? = some r) (he : htAt (labs N (sub rs T)) r.f = htAt (labs N (sub rs T)) r.t) : First N rs (k + 1) T := by
  obtain ⟨q0, q1, q2, q3⟩ := hok r (List.mem_of_getElem? hr)
  refine ⟨⟨fun z hz => by have := h.asc.rng z hz; omega, h.asc.up⟩, ?_, h.cnt⟩
  have e : rs.take (k + 1) = rs.take k ++ [r] := by rw [List.take_add_one, hr]; rfl
  rw [e, labs_loop q0 q1 q2 q3 (by rw [← h.lab]; exact he)]
  exact h.lab
theorem First.take (h : First N rs k T) (hr : rs[k]? = some r) (hne : htAt (labs N (sub rs T)) r.f ≠ htAt (labs N (sub rs T)) r.t) : First N rs (k + 1) (T ++ [(k : Int)]) := by
  have hk := (List.getElem?_eq_some_iff.1 hr).1
  have hms := h.asc.mem_sub (rs := rs) (by omega)
  have hrm := List.mem_of_getElem? hr
  have hok1 : ∀ r' ∈ sub rs T ++ [r], 0 ≤ r'.f ∧ r'.f < (N : Int) ∧ 0 ≤ r'.t ∧ r'.t < (N : Int) := fun r' hr' => by
    rcases List.mem_append.1 hr' with h' | h'
    · exact hok r' (hms r' h')
    · simp at h'; subst h'; exact hok _ hrm
  have e : rs.take (k + 1) = rs.take k ++ [r] := by rw [List.take_add_one, hr]; rfl
  have hok2 : ∀ r' ∈ rs.take k ++ [r], 0 ≤ r'.f ∧ r'.f < (N : Int) ∧ 0 ≤ r'.t ∧ r'.t < (N : Int) := fun r' hr' => by
    rw [← e] at hr'; exact hok r' (List.mem_of_mem_take hr')
  have hs := sub_snoc rs T k hr
  refine ⟨⟨fun z hz => ?_, ?_⟩, ?_, ?_⟩
  · rcases List.mem_append.1 hz with h' | h'
    · have := h.asc.rng z h'; omega
    · simp at h'; subst h'; omega
  · rw [List.pairwise_append]
    refine ⟨h.asc.up, by simp, fun a ha b hb => ?_⟩
    simp at hb; subst hb
    exact (h.asc.rng a ha).2
  · rw [hs, e]
    obtain ⟨al, be, hlt, hv⟩ : ∃ al be : Int, al < be ∧ ((htAt (labs N (sub rs T)) r.f = al ∧ htAt (labs N (sub rs T)) r.t = be) ∨ (htAt (labs N (sub rs T)) r.f = be ∧ htAt (labs N (sub rs T)) r.t = al)) := by
      rcases Int.lt_or_gt_of_ne hne with h | h
      · exact ⟨_, _, h, .inl ⟨rfl, rfl⟩⟩
      · exact ⟨_, _, h, .inr ⟨rfl, rfl⟩⟩
    rw [labs_link hok1 hlt hv, labs_link hok2 hlt (by rw [← h.lab]; exact hv), h.lab]
  · rw [hs]
    have := roots_link hok1 hne
    have := h.cnt
    simp; omega
end
theorem roots_zero {L : List Int} : ∀ k : Nat, (∀ i : Nat, i < k + 1 → htAt L i = 0) → roots L (k + 1) = 1
  | 0, h => by
    have := h 0 (by omega)
    simp only [roots]
    rw [if_pos (by simpa using this)]
  | k + 1, h => by
    have ih := roots_zero k (fun i hi => h i (by omega))
    rw [roots, ih, if_neg (by have := h (k + 1) (by omega); omega)]
/-- a whole net's first tree has one run less than there are nodes, and is whole -/
theorem First.whole {N : Nat} {rs : List Rn} {T : List Int} (h : First N rs rs.length T) (hw : nWhole N rs = true) : T.length + 1 = N ∧ nWhole N (sub rs T) = true := by
  have hn : nOk N rs = true := by unfold nWhole at hw; simp at hw; exact hw.1
  obtain ⟨h1, h2, h3, h4⟩ := nOk_true hn
  have hlab := h.lab
  rw [List.take_length] at hlab
  have hz : (labs N rs).all (fun z => decide (z = 0)) = true := by unfold nWhole at hw; rw [hn] at hw; simpa using hw
  have hall : ∀ i : Nat, i < N → htAt (labs N rs) i = 0 := fun i hi => by
    have := htAt_get (L := labs N rs) (x := (i : Int)) (by omega) (by rw [labs_len]; omega)
    rw [List.all_eq_true] at hz
    have := hz _ (List.mem_of_getElem? this)
    simpa using this
  obtain ⟨M, rfl⟩ : ∃ M, N = M + 1 := ⟨N - 1, by omega⟩
  have hr := roots_zero M hall
  have hc := h.cnt
  rw [hlab, hr] at hc
  have hlen : T.length = M := by omega
  have hok : nOk ((M + 1 : Nat) : Int) (sub rs T) = true := nOk_of h1 h2 (by rw [sub_len]; omega) (fun i r hi => by
    obtain ⟨j, hj⟩ := List.getElem?_of_mem (h.asc.mem_sub (Nat.le_refl _) r (List.mem_of_getElem? hi))
    exact h4 j r hj)
  exact ⟨by omega, by unfold nWhole; rw [hok, hlab, hz]; rfl⟩
theorem First.sub_ok {N : Nat} {rs : List Rn} {k : Nat} {T : List Int} (h : First N rs k T) (hn : nOk N rs = true) (hk : k ≤ rs.length) : nOk N (sub rs T) = true := by
  obtain ⟨h1, h2, h3, h4⟩ := nOk_true hn
  have := h.cnt
  exact nOk_of h1 h2 (by rw [sub_len]; omega) (fun i r hi => by
    obtain ⟨j, hj⟩ := List.getElem?_of_mem (h.asc.mem_sub hk r (List.mem_of_getElem? hi))
    exact h4 j r hj)
end Go.Proofs.Ytenllemaccacgab
