/-
  Who is healthy; what is decided: plain, and endpointsOf.
-/
import Derived.Test.YtfhobglcploaoaaDoorDc
import Derived.Test.YtfhobglcploaoaaDoorDd
namespace Go.Proofs.YtfhobglcploaoaaDoor
open Go.RowKit
set_option linter.unusedVariables false
set_option linter.unusedSimpArgs false
set_option maxRecDepth 100000
/-- a service's healthy endpoints, and where they lie -/
structure Hy where
  sv : ByteArray
  eps : List ByteArray
  ea : Option Addr
  ec : Nat
def Hy.row (t : Hy) : List Value := [.string t.sv, .slice t.ea t.eps.length t.ec]
structure Yin (W : World) (o : Hy) : Prop where
  es : Cel W o.ea 1 (o.eps.map strR)
  le : o.eps.length ≤ 140737488355328
  ok : ∀ s ∈ o.eps, okS s
  sz : okS o.sv
theorem Yin.below {w w' : World} {o : Hy} (h : Yin w o) (hb : Below w.heap.size w w') : Yin w' o := ⟨h.es.below hb, h.le, h.ok, h.sz⟩
/-- a list of such in memory -/
structure Lin (W : World) (a : Option Addr) (n : Nat) (l : List Hy) : Prop where
  es : Cel W a 2 (l.map Hy.row)
  len : l.length = n
  le : n ≤ 140737488355328
  each : ∀ o ∈ l, Yin W o
theorem Lin.below {w w' : World} {a : Option Addr} {n : Nat} {l : List Hy} (h : Lin w a n l) (hb : Below w.heap.size w w') : Lin w' a n l := ⟨h.es.below hb, h.len, h.le, fun o ho => (h.each o ho).below hb⟩
def epsF (l : List Hy) (s : ByteArray) : Option Hy := if s.toList.isEmpty then none else l.find? (fun o => o.sv.toList == s.toList)
def epsV (o : Option Hy) : Value := match o with | some o => .slice o.ea o.eps.length o.ec | none => .slice none 0 0
theorem epsF_at {l : List Hy} {s : ByteArray} {i : Nat} {o : Hy} (h0 : s.toList.isEmpty = false) (h1 : ∀ (j : Nat) (y : Hy), j < i → l[j]? = some y → (y.sv.toList == s.toList) = false) (h2 : l[i]? = some o) (h3 : (o.sv.toList == s.toList) = true) : epsF l s = some o := by
  unfold epsF
  rw [h0]
  have hi := List.getElem?_eq_some_iff.1 h2
  refine List.find?_eq_some_iff_getElem.2 ⟨h3, i, hi.1, hi.2, fun j hj => ?_⟩
  have := h1 j (l[j]'(by have := hi.1; omega)) hj (List.getElem?_eq_getElem _)
  simp only [this, Bool.not_false]
theorem epsF_no {l : List Hy} {s : ByteArray} (h1 : ∀ (j : Nat) (y : Hy), l[j]? = some y → (y.sv.toList == s.toList) = false) : epsF l s = none := by
  unfold epsF
  split
  · rfl
  · exact List.find?_eq_none.2 (fun x hx => by obtain ⟨j, hj⟩ := List.getElem?_of_mem hx; rw [h1 j x hj]; simp)
theorem epsF_mem {l : List Hy} {s : ByteArray} {o : Hy} (h : epsF l s = some o) : o ∈ l ∧ o.sv.toList = s.toList ∧ s.toList.isEmpty = false := by
  unfold epsF at h
  split at h
  · cases h
  · next hs => exact ⟨List.mem_of_find?_eq_some h, by have := List.find?_some h; simpa using this, by simpa using hs⟩
set_option maxHeartbeats 8000000 in
theorem endpoints_any (w : World) (a : Option Addr) (n c : Nat) (l : List Hy) (s : ByteArray) (hL : Lin w a n l) :
    Calls Tryd.prog 20 #[.slice a n c, .string s] w fun e w' => e = .returned (epsV (epsF l s)) ∧ Below w.heap.size w w' := by
  have HT := hideL hL
  have hl := hL.le
  have HN := hideL hL.len
  obtain ⟨A, hA⟩ : ∃ A, epsF l s = A := ⟨_, rfl⟩
  have HAA := hideL hA
  rw [hA]
  clear hA hL
  go_enter Tryd.func20, Tryd.ntmps20
  cases hs : s.toList.isEmpty
  · go_wp2_with fail
    go_loopw [11] (fun u wr => ∃ (i : Nat), u = .int .i64 i ∧ i ≤ n ∧ Below w.heap.size w wr ∧ Hid (∀ (j : Nat) (y : Hy), j < i → l[j]? = some y → (y.sv.toList == s.toList) = false)) (fun u _ => n - (intOf u).toNat)
    case atStart => exact ⟨0, rfl, by omega, Below.refl _ _, fun j y hj => by omega⟩
    case round =>
      obtain ⟨i, rfl, hi, hbel, HF⟩ := hrel
      have HB := hideL hbel
      clear hbel
      have i0 : (0 : Int) ≤ i := by omega
      by_cases h3 : i < n
      · have h3' : (i : Int) < n := by omega
        rcases hki : l[i]? with _ | o
        · have := List.getElem?_eq_none_iff.1 hki; have := HN.out; omega
        obtain ⟨g, off, rfl, hcx⟩ := (HT.out.es.below HB.out).at_ hki
        have c0 := hcx 0 _ rfl
        have c1 := hcx 1 _ rfl
        rw [Nat.add_zero] at c0
        have HK := hideL hki
        have HBA : Hid (∀ X, Below w.heap.size w (wr.alloc X)) := fun X => HB.out.trans ((Gr.alloc wr _).below.mono HB.out.size)
        clear hki hcx
        cases hbb : (o.sv.toList == s.toList)
        · have HBB := hideL hbb
          go_wp2_with fail
          go_roundw
          case rel => exact ⟨i + 1, by go_num, by omega, HBA.out _, fun j y hj hy => by
            by_cases hji : j < i
            · exact HF.out j y hji hy
            · obtain rfl : j = i := by omega
              rw [HK.out] at hy; cases hy; exact HBB.out⟩
          case measure => simp [intOf]; omega
        · have HR : Hid (A = some o) := by unfold Hid; rw [← HAA.out]; exact epsF_at hs HF.out HK.out hbb
          go_wp2
          go_ret
          exact ⟨by rw [HR.out]; rfl, HBA.out _⟩
      · have h3' : ¬ (i : Int) < n := by omega
        have HR : Hid (A = none) := by
          unfold Hid; rw [← HAA.out]
          exact epsF_no (fun j y hy => HF.out j y (by have := (List.getElem?_eq_some_iff.1 hy).1; have := HN.out; omega) hy)
        go_wp2
        go_ret
        exact ⟨by rw [HR.out]; rfl, HB.out⟩
  · have HR : Hid (A = none) := by unfold Hid; rw [← HAA.out]; unfold epsF; rw [hs]; rfl
    go_wp2
    go_ret
    exact ⟨by rw [HR.out]; rfl, Below.refl _ _⟩
/-- what is decided -/
structure Dn where
  kd : Int
  st : Int
  ro : ByteArray
  ru : Int
  sv : ByteArray
  ep : ByteArray
def Dn.val (d : Dn) : Value := .agg #[.int .i64 d.kd, .int .i64 d.st, .string d.ro, .int .i64 d.ru, .string d.sv, .string d.ep]
def e0 : ByteArray := ⟨#[]⟩
def epsL (o : Option Hy) : List ByteArray := match o with | some o => o.eps | none => []
def pickN (n : Int) (k : Nat) : Nat := (max n 0 % (k : Int)).toNat
def decF (l : List Ho) (hs : List Hy) (me ho pa : ByteArray) (u : Nat) (n : Int) : Dn :=
  match fndF l ho with
  | none => ⟨2, 404, e0, -1, e0, e0⟩
  | some i => match l[i]? with
    | none => ⟨2, 404, e0, -1, e0, e0⟩
    | some x => match rulF x.ens me pa with
      | none => ⟨3, 404, x.ro, -1, e0, e0⟩
      | some r => match alwB x.pms me pa with
        | false => ⟨4, 403, x.ro, r, e0, e0⟩
        | true => match x.ens[r]? with
          | none => ⟨4, 403, x.ro, r, e0, e0⟩
          | some en => match (epsL (epsF hs (shF en.shs u)))[pickN n (epsL (epsF hs (shF en.shs u))).length]? with
            | none => ⟨5, 503, x.ro, r, shF en.shs u, e0⟩
            | some p => ⟨1, 0, x.ro, r, shF en.shs u, p⟩
theorem dec2 {l : List Ho} {hs : List Hy} {me ho pa : ByteArray} {u : Nat} {n : Int} (h : fndF l ho = none) : decF l hs me ho pa u n = ⟨2, 404, e0, -1, e0, e0⟩ := by unfold decF; rw [h]
theorem dec3 {l : List Ho} {hs : List Hy} {me ho pa : ByteArray} {u : Nat} {n : Int} {i : Nat} {x : Ho} (h : fndF l ho = some i) (hx : l[i]? = some x) (h2 : rulF x.ens me pa = none) : decF l hs me ho pa u n = ⟨3, 404, x.ro, -1, e0, e0⟩ := by unfold decF; rw [h]; simp only [hx, h2]
theorem dec4 {l : List Ho} {hs : List Hy} {me ho pa : ByteArray} {u : Nat} {n : Int} {i r : Nat} {x : Ho} (h : fndF l ho = some i) (hx : l[i]? = some x) (h2 : rulF x.ens me pa = some r) (h3 : alwB x.pms me pa = false) : decF l hs me ho pa u n = ⟨4, 403, x.ro, r, e0, e0⟩ := by unfold decF; rw [h]; simp only [hx, h2, h3]
theorem dec5 {l : List Ho} {hs : List Hy} {me ho pa : ByteArray} {u : Nat} {n : Int} {i r : Nat} {x : Ho} {en : En} (h : fndF l ho = some i) (hx : l[i]? = some x) (h2 : rulF x.ens me pa = some r) (h3 : alwB x.pms me pa = true) (h4 : x.ens[r]? = some en) (h5 : (epsL (epsF hs (shF en.shs u))).length = 0) : decF l hs me ho pa u n = ⟨5, 503, x.ro, r, shF en.shs u, e0⟩ := by
  unfold decF; rw [h]; simp only [hx, h2, h3, h4, List.eq_nil_of_length_eq_zero h5]; rfl
theorem dec1 {l : List Ho} {hs : List Hy} {me ho pa : ByteArray} {u : Nat} {n : Int} {i r : Nat} {x : Ho} {en : En} {p : ByteArray} (h : fndF l ho = some i) (hx : l[i]? = some x) (h2 : rulF x.ens me pa = some r) (h3 : alwB x.pms me pa = true) (h4 : x.ens[r]? = some en) (h5 : (epsL (epsF hs (shF en.shs u)))[pickN n (epsL (epsF hs (shF en.shs u))).length]? = some p) : decF l hs me ho pa u n = ⟨1, 0, x.ro, r, shF en.shs u, p⟩ := by
  unfold decF; rw [h]; simp only [hx, h2, h3, h4, h5]
end Go.Proofs.YtfhobglcploaoaaDoor
