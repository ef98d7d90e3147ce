/-
  slices.Insert of one quotient ahead of a list of quotients that has no room.
-/
import Derived.Test.YtddmbjobibljaaaGreatDoorEi
import Derived.Test.YtddmbjobibljaaaGreatDoorEf
import Derived.Lib.AppendZerosOnto
import Derived.Laws.IdiomCopy
namespace Go.Proofs.YtddmbjobibljaaaGreatDoor
open Go.RowKit
set_option linter.unusedVariables false

theorem zero2 (k : Nat) : Builtin.zeroCells (Value.agg #[.int .i64 0, .int .i64 0]).cells k = Array.replicate (k * 2) (Value.int .i64 0) := by
  apply Array.ext
  · simp [Builtin.zeroCells, Value.cells]
  · intro i h1 h2
    have : i % 2 = 0 ∨ i % 2 = 1 := by omega
    rcases this with h | h <;> simp [Builtin.zeroCells, Value.cells, h]
/-- numbers laid over numbers, from the o-th one on -/
def setL : List Int → Nat → List Int → List Int
  | L, _, [] => L
  | L, o, z :: zs => setL (L.set o z) (o + 1) zs
theorem setL_len : ∀ (zs L : List Int) (o : Nat), (setL L o zs).length = L.length
  | [], _, _ => rfl
  | z :: zs, L, o => by unfold setL; rw [setL_len zs]; simp
theorem setL_app : ∀ (zs A B : List Int), B.length = zs.length → setL (A ++ B) A.length zs = A ++ zs
  | [], A, B, h => by
    have : B = [] := List.eq_nil_of_length_eq_zero (by simpa using h)
    subst this; rfl
  | z :: zs, A, B, h => by
    obtain ⟨b, B, rfl⟩ : ∃ b C, B = b :: C := by
      cases B with
      | nil => simp at h
      | cons b C => exact ⟨b, C, rfl⟩
    unfold setL
    have e : (A ++ b :: B).set A.length z = (A ++ [z]) ++ B := by
      rw [List.set_append_right _ _ (Nat.le_refl _), Nat.sub_self]; simp
    have e2 : A.length + 1 = (A ++ [z]).length := by simp
    rw [e, e2, setL_app zs (A ++ [z]) B (by simpa using h)]
    simp
theorem Own.setCells : ∀ (zs : List Int) (o : Nat) {w : World} {g : Nat} {T : TypeId} {sz n cap : Nat} {L : List Int}, Own w g T sz n cap L → o + zs.length ≤ L.length → Own (w.setCells g o (ivs zs)) g T sz n cap (setL L o zs)
  | [], _, _, _, _, _, _, _, _, h, _ => h
  | z :: zs, o, w, g, T, sz, n, cap, L, h, hl => by
    simp only [List.length_cons] at hl
    exact Own.setCells zs (o + 1) (h.set o z (by omega)) (by simp; omega)
theorem belowSetCells {a : World} {B g : Nat} (hB : B ≤ g) : ∀ (vs : List Value) (o : Nat) {w : World}, Below B a w → Below B a (w.setCells g o vs)
  | [], _, _, h => h
  | v :: vs, o, w, h => belowSetCells hB vs (o + 1) (h.setCell (p := ⟨g, o, none⟩) hB v)
/-- copy, of elements of several cells -/
theorem run_copy_wide {P : Program} (w : World) (dT sT ty elem : TypeId) (sz b o dLen dCap k : Nat) (a : Addr) (sLen sCap : Nat) (cs : List Value)
    (hu : P.underlying dT = some (.slice elem)) (hs : (P.info? elem).map (·.size) = some sz) (hk : Nat.min sLen dLen = k) (hn : cs.length = k * sz)
    (hsrc : ∀ j v, cs[j]? = some v → w.cell? (a.add j) = some v) (hc : ∀ j, j < cs.length → (w.cell? ⟨b, o + j, none⟩).isSome = true) (hf : ∀ j, j < cs.length → w.frozen? ⟨b, o + j, none⟩ = false) (h1 : ∀ v ∈ cs, v.oneCell' = true) :
    (Builtin.copy_ #[dT, sT] ty #[.slice (some ⟨b, o, none⟩) dLen dCap, .slice (some a) sLen sCap]).run P w = .ok (goInt k) (w.setCells b o cs) := by
  have hl := run_loadCells_list (P := P) w a cs hsrc
  have hst := run_storeCells_cells (P := P) b o cs 0 w (by simpa using hc) (by simpa using hf) h1
  cases hq : P.info? elem with
  | none => simp [hq] at hs
  | some i =>
    have hi : i.size = sz := by simpa [hq] using hs
    rw [hn] at hl
    simp [Builtin.copy_, run_underlying hu, Builtin.lenOf, Builtin.firstCells, sizeOf, typeInfo, hq, hi, hk, hl, hst]
theorem ivs_len (zs : List Int) : (ivs zs).length = zs.length := by simp [ivs]
theorem ivs_one {zs : List Int} : ∀ v ∈ ivs zs, v.oneCell' = true := by
  intro v hv
  rw [ivs, List.mem_map] at hv
  obtain ⟨z, _, rfl⟩ := hv
  rfl
theorem own_copy {P : Program} {w : World} {dT sT ty elem : TypeId} {g sz n cap o dLen dCap k : Nat} {a : Addr} {sLen sCap : Nat} {L zs : List Int} (h : Own w g elem sz n cap L)
    (hu : P.underlying dT = some (.slice elem)) (hs : (P.info? elem).map (·.size) = some sz) (hk : Nat.min sLen dLen = k) (hn : zs.length = k * sz) (ho : o + zs.length ≤ L.length)
    (hsrc : ∀ (j : Nat) (z : Int), zs[j]? = some z → w.cell? (a.add j) = some (.int .i64 z)) :
    (Builtin.copy_ #[dT, sT] ty #[.slice (some ⟨g, o, none⟩) dLen dCap, .slice (some a) sLen sCap]).run P w = .ok (goInt k) (w.setCells g o (ivs zs)) := by
  refine run_copy_wide w dT sT ty elem sz g o dLen dCap k a sLen sCap (ivs zs) hu hs hk (by rw [ivs_len]; exact hn) (fun j v hj => ?_) (fun j hj => ?_) (fun j _ => h.frozen _) ivs_one
  · rw [ivs, List.getElem?_map] at hj
    obtain ⟨z, hz, rfl⟩ := Option.map_eq_some_iff.1 hj
    exact hsrc j z hz
  · rw [ivs_len] at hj
    rw [h.cells (i := o + j) (z := L[o + j]'(by omega)) (List.getElem?_eq_getElem (by omega))]; rfl
theorem wpList_copy_runQ {P : Program} (w : World) {ops : Array Oper} {rest : List Oper} {o : Oper} {a : Act} {Q : Exit → Act → World → Prop} (hgd : o.guard = none) (d s : Operand) (t t' : TypeId)
    (ho : o.op = .call { callee := .builtin .copy, args := #[d, s], argTypes := #[t, t'] }) (v u : Value) (hd : a.eval d = v) (hs : a.eval s = u) {v' : Value} {w' : World}
    (hr : (Builtin.copy_ #[t, t'] o.type #[v, u]).run P w = .ok v' w') (h : wpList P ops Q rest (a.put o.dst v') w') : wpList P ops Q (o :: rest) a w :=
  wpList_plain hgd fun _ hK => by
    unfold Oper.wp execOp
    simp only [ho, resolve, invoke, builtin, Sem.run_bind, Sem.run_pure, Result.andThen_ok, List.map_toArray, List.map_cons, List.map_nil, hd, hs, hr]
    exact hK _ _ h
end Go.Proofs.YtddmbjobibljaaaGreatDoor
