/-
  The scanner's walk.
-/
import Derived.Test.YthfmepnlbaifcaaDoorSn
namespace Go.Proofs.YthfmepnlbaifcaaDoor
open Go.RowKit
set_option linter.unusedVariables false
set_option linter.unusedSimpArgs false
theorem fr_mk (l : List UInt8) (g : Nat) (T : Array Value) (p f : Nat) (h : T.size = 100) (h0 : T.getD 0 undef = .string ⟨l.toArray⟩) (h2 : T.getD 2 undef = .pointer (some ⟨g, 0, none⟩)) (h4 : T.getD 4 undef = .pointer (some ⟨g + 1, 0, none⟩)) (h5 : T.getD 5 undef = .int .i64 (p : Int)) (h6 : T.getD 6 undef = .int .i64 (f : Int)) : Fr l g ⟨T, []⟩ p f := ⟨T, rfl, h, h0, h2, h4, h5, h6⟩
theorem extract_mid (l : List UInt8) (i j : Nat) : (ByteArray.mk l.toArray).extract i j = ⟨((l.drop i).take (j - i)).toArray⟩ := by
  apply ByteArray.ext
  simp [ByteArray.data_extract]
theorem not_dgB {r : List UInt8} (h : dgB r 0 = false) (h0 : r.head? ≠ some 48) : wholeOf r = [] := by
  unfold wholeOf
  rw [if_neg h0]
  cases r with
  | nil => rfl
  | cons c r => simp [List.takeWhile, show dg c = false from h]
theorem scan_nowhole {l : List UInt8} (h : wholeOf (unM l) = []) : scanF l = none := by
  unfold scanF scan1
  rw [h]
  cases (unM l).drop ([] : List UInt8).length with
  | nil => simp [scan2]
  | cons c r => simp [scan2]
/-- the scanner's code, from its first label's scope on -/
def scanOf (f : Func) : Code := match f.body with
  | some (.seq _ (.scope c)) => c
  | some (.scope c) => c
  | _ => .skip
theorem μ_lt (l : List UInt8) (a : Act) (p : Nat) (w : World) (h : a.tmps.getD 5 undef = .int .i64 (p : Int)) : μn l 1 a w = 2 * l.length + 5 + (l.length - p) ∧ μn l 4 a w = l.length + 3 + (l.length - p) := by
  constructor
  · show 2 * l.length + 5 + (l.length - (intOf (a.tmps.getD 5 undef)).toNat) = _
    rw [h]; rfl
  · show l.length + 3 + (l.length - (intOf (a.tmps.getD 5 undef)).toNat) = _
    rw [h]; rfl
theorem pass1d (l : List UInt8) (w : World) (hs : l.length ≤ 2 ^ 47) (Q : Exit → Act → World → Prop) (a : Act) (W : World) (k : Nat) (hF : Fr l w.heap.size a (fM l + k) (fM l)) (hW : W = W2 w (hasM l) [] [] 0) (h0 : (unM l).head? ≠ some 48) (hk : k ≤ (unM l).length) (hall : ∀ c ∈ (unM l).take k, dg c = true) (hd : dgB (unM l) k = true) :
    ∃ rest, findLabel (scanOf Tryd.f37) 1 = some rest ∧ rest.wp Tryd.prog (jumps (fun l' a' w' => Jn l w l' a' w' ∧ μn l l' a' w' < μn l 1 a W) Q) a W := by
  subst hW
  have hlen := fM_le l
  rw [(μ_lt l a _ _ hF.five).1]
  obtain ⟨u, ha⟩ := hF.open_
  clear hF
  subst ha
  have hkl : k < (unM l).length := by
    rcases ik : (unM l)[k]? with _ | c
    · rw [dgB, ik] at hd; cases hd
    · exact (List.getElem?_eq_some_iff.1 ik).1
  obtain ⟨p, hp⟩ : ∃ p, fM l + k = p := ⟨_, rfl⟩
  obtain ⟨f, hf⟩ : ∃ f, fM l = f := ⟨_, rfl⟩
  obtain ⟨m, hm⟩ : ∃ m, hasM l = m := ⟨_, rfl⟩
  have pl : (p : Int) < l.length := by omega
  have dd := dg_at l p p rfl true (by rw [← hp, dgB_un, hd])
  have HH := hide2 (And.intro hlen (And.intro hp (And.intro hf (And.intro hm (And.intro h0 (And.intro hk hall))))))
  have HK := hide2 hkl
  have HD := hide2 hd
  rw [hp, hf, hm]
  refine ⟨_, rfl, ?_⟩
  clear hlen hp hf hm h0 hk hall hd hkl
  unfold W2
  go_wp2_with (go_at_call 56; refine (dd _ hs (by omega)).mono ?_; rintro e w' ⟨rfl, rfl⟩)
  go_step3
  obtain ⟨hlen, hp, hf, hm, h0, hk, hall⟩ := HH.out
  have hkl := HK.out
  have e5 : (p : Int) + 1 = ((fM l + (k + 1) : Nat) : Int) := by omega
  refine ⟨⟨k + 1, fr_mk _ _ _ _ _ rfl rfl rfl rfl (by rw [← e5]; rfl) (by rw [hf]; rfl), by rw [hm]; rfl, h0, hkl, ?_⟩, ?_⟩
  · intro c hc
    have := HD.out
    rcases ik : (unM l)[k]? with _ | x
    · rw [dgB, ik] at this; cases this
    · rw [take_snoc ik, List.mem_append] at hc
      rcases hc with hc | hc
      · exact hall c hc
      · simp at hc
        subst hc
        rw [dgB, ik] at this
        exact this
  · rw [(μ_lt l _ (fM l + (k + 1)) _ (by rw [← e5]; rfl)).1]
    omega
end Go.Proofs.YthfmepnlbaifcaaDoor
