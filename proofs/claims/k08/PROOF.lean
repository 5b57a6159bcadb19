import PyProof.Rows.All
import Wide.All
import OpenK.AllK
import Wide.FinOn
import PySem.Challenge.RW_guardline_k08_whole_mended_or_not
open PySem PySem.W PyProof.Rows
set_option Elab.async false
set_option maxRecDepth 100000 in
set_option maxHeartbeats 8000000 in
open_top hd08 for PySem.Challenge.rw_guardline_k08_whole_mended_or_not
section
open PySem PySem.W PyProof.Rows
set_option Elab.async false
namespace G
open PySem.W.KStt (codes)
abbrev sg : PySem.Str := PySem.Str.ofString "0123456789abcdefghijklmnopqrstuvwxyz-"
def sgl : List Int := [48, 49, 50, 51, 52, 53, 54, 55, 56, 57, 97, 98, 99, 100, 101, 102, 103, 104, 105, 106, 107, 108, 109, 110, 111, 112, 113, 114, 115, 116, 117, 118, 119, 120, 121, 122, 45]
theorem codes_sg : codes sg = sgl := by decide +kernel
theorem sg_len : sg.length = 37 := by decide +kernel
/-- the sign of a number, the number of a sign -/
def sgn (k : Int) : Int := sgl.getD k.toNat 0
def num (c : Int) : Int := (sgl.idxOf c : Nat)
theorem sgn_tab : ∀ k : Fin 37, sgn (k.val : Int) ∈ sgl ∧ num (sgn (k.val : Int)) = (k.val : Int) := by decide +kernel
theorem num_tab : ∀ c ∈ sgl, 0 ≤ num c ∧ num c < 37 ∧ sgn (num c) = c := by decide +kernel
theorem sgn_in {k : Int} (h0 : 0 ≤ k) (h1 : k < 37) : sgn k ∈ sgl := by
  have t := (sgn_tab ⟨k.toNat, by omega⟩).1
  rwa [show (((⟨k.toNat, by omega⟩ : Fin 37).val : Nat) : Int) = k by dsimp only; omega] at t
theorem num_sgn {k : Int} (h0 : 0 ≤ k) (h1 : k < 37) : num (sgn k) = k := by
  have t := (sgn_tab ⟨k.toNat, by omega⟩).2
  rwa [show (((⟨k.toNat, by omega⟩ : Fin 37).val : Nat) : Int) = k by dsimp only; omega] at t
theorem num_lo {c : Int} (h : c ∈ sgl) : 0 ≤ num c := (num_tab c h).1
theorem num_hi {c : Int} (h : c ∈ sgl) : num c < 37 := (num_tab c h).2.1
theorem sgn_num {c : Int} (h : c ∈ sgl) : sgn (num c) = c := (num_tab c h).2.2
theorem num_inj {c d : Int} (h : c ∈ sgl) (h' : d ∈ sgl) (e : num c = num d) : c = d := by rw [← sgn_num h, ← sgn_num h', e]
/-! texts by their codes -/
theorem codes_app (a b : PySem.Str) : codes (a ++ b) = codes a ++ codes b := by
  unfold PySem.W.KStt.codes
  rw [PySem.W.KT.app_list, List.map_append]
theorem codes_len (a : PySem.Str) : (codes a).length = a.length := PySem.W.KStt.codes_length a
theorem codes_inj {a b : PySem.Str} (h : codes a = codes b) : a = b := by
  rw [← PySem.W.KStt.txt_codes a, ← PySem.W.KStt.txt_codes b, h]
theorem codes_nil : codes (PySem.Str.ofString "") = [] := by decide +kernel
theorem codes_one (c : Nat) : codes ⟨#[c]⟩ = [(c : Int)] := rfl
theorem item_tab : ∀ k : Fin 37, codes (PySem.Txt.item sg (k.val : Int)) = [sgn (k.val : Int)] := by decide +kernel
theorem codes_item {k : Int} (h0 : 0 ≤ k) (h1 : k < 37) : codes (PySem.Txt.item sg k) = [sgn k] := by
  have t := item_tab ⟨k.toNat, by omega⟩
  rwa [show (((⟨k.toNat, by omega⟩ : Fin 37).val : Nat) : Int) = k by dsimp only; omega] at t
/-- a text of the 37 signs -/
structure IsW (x : PySem.Str) : Prop where
  all : ∀ c ∈ codes x, c ∈ sgl
theorem isW_nil : IsW (PySem.Str.ofString "") := ⟨by rw [codes_nil]; intro _ h; exact nomatch h⟩
theorem isW_app {a b : PySem.Str} (ha : IsW a) (hb : IsW b) : IsW (a ++ b) := ⟨by
  rw [codes_app]
  intro c h
  rcases List.mem_append.mp h with h | h
  · exact ha.all c h
  · exact hb.all c h⟩
theorem isW_item {k : Int} (h0 : 0 ≤ k) (h1 : k < 37) : IsW (PySem.Txt.item sg k) := ⟨by
  rw [codes_item h0 h1]
  intro c h
  rw [List.mem_singleton.mp h]
  exact sgn_in h0 h1⟩
theorem item_len (x : PySem.Str) (k : Int) : (PySem.Txt.item x k).length = 1 := rfl
theorem fm (x : Int) : Int.fmod x 37 = x % 37 := Int.fmod_eq_emod_of_nonneg x (by decide)
theorem fm_lo (x : Int) : 0 ≤ Int.fmod x 37 := by rw [fm]; exact Int.emod_nonneg x (by decide)
theorem fm_hi (x : Int) : Int.fmod x 37 < 37 := by rw [fm]; exact Int.emod_lt_of_pos x (by decide)
/-! the law's own words -/
theorem word_start : (PySem.Str.ofString "").length = ([] : List Int).length ∧ IsW (PySem.Str.ofString "") := ⟨by decide +kernel, isW_nil⟩
theorem word_turn {pre : List Int} {v x : Int} {line : PySem.Str} (h : line.length = pre.length) (hw : IsW line) :
    (line ++ PySem.Txt.item sg (Int.fmod x 37)).length = (pre ++ [v]).length ∧ IsW (line ++ PySem.Txt.item sg (Int.fmod x 37)) := by
  refine ⟨?_, isW_app hw (isW_item (fm_lo x) (fm_hi x))⟩
  rw [PySem.Str.length_append, item_len, h, List.length_append]
  rfl
end G
end
section
open PySem PySem.W PyProof.Rows
namespace G
open PySem.W.KStt (codes)
open PySem.Builtin.Str
def clipI (v : Option Int) (d : Int) (n : Nat) : Int := match v with
  | none => d
  | some i => max 0 (min (if i < 0 then i + n else i) n)
theorem range_gen {a b : Int} (ha : 0 ≤ a) (hb : 0 ≤ b) : sliceRange a b 1 = (List.range (b.toNat - a.toNat)).map fun k => a.toNat + k := by
  unfold sliceRange
  rw [if_pos (by decide)]
  dsimp only
  have e : (if a < b then (b - a + 1 - 1) / 1 else 0).toNat = b.toNat - a.toNat := by
    rw [Int.ediv_one]
    split <;> omega
  rw [e]
  refine List.map_congr_left fun k _ => ?_
  omega
theorem indices (l u : Option Int) (n : Nat) : strSliceIndices l u 1 n = sliceRange (clipI l 0 n) (clipI u n n) 1 := by
  unfold strSliceIndices clipI
  cases l <;> cases u <;> rfl
def lo (l : Option Int) (n : Nat) : Nat := (clipI l 0 n).toNat
def hi (u : Option Int) (n : Nat) : Nat := (clipI u n n).toNat
theorem clipI_nn {v : Option Int} {d : Int} {n : Nat} (h : 0 ≤ d) : 0 ≤ clipI v d n := by
  cases v with
  | none => exact h
  | some i => exact Int.le_max_left _ _
theorem clipI_le {v : Option Int} {d : Int} {n : Nat} (h : d ≤ n) : clipI v d n ≤ n := by
  cases v with
  | none => exact h
  | some i => show max 0 (min (if i < 0 then i + (n : Int) else i) n) ≤ n; split <;> omega
theorem pick (xs : Array Nat) (a k : Nat) : ((List.range k).map fun j => a + j).filterMap (xs[·]?) = (xs.toList.drop a).take k := by
  induction k with
  | zero => simp
  | succ k ih =>
    rw [List.range_succ, List.map_append, List.filterMap_append, ih, List.take_add_one]
    congr 1
    rw [List.getElem?_drop]
    simp only [List.map_cons, List.map_nil, List.filterMap_cons, List.filterMap_nil]
    rw [Array.getElem?_toList]
    cases xs[a + k]? <;> rfl
/-- a slice's signs -/
theorem codes_slice (x : PySem.Str) (l u : Option Int) : codes (PySem.Txt.slice x l u) = ((codes x).drop (lo l x.length)).take (hi u x.length - lo l x.length) := by
  unfold PySem.Txt.slice
  have ei : strSliceIndices l u 1 x.length = (List.range (hi u x.length - lo l x.length)).map fun k => lo l x.length + k := by
    rw [indices, range_gen (clipI_nn (by decide)) (clipI_nn (Int.natCast_nonneg _))]
    rfl
  have h1 : lo l x.length ≤ x.length := by have := clipI_le (v := l) (d := 0) (n := x.length) (Int.natCast_nonneg _); unfold lo; omega
  have h2 : hi u x.length ≤ x.length := by have := clipI_le (v := u) (d := x.length) (n := x.length) (Int.le_refl _); unfold hi; omega
  rw [ei]
  have len : (codes x).length = x.length := codes_len x
  split
  · rename_i c
    rw [List.length_map, List.length_range] at c
    have c' : hi u x.length - lo l x.length = x.length := by
      simpa using c
    rw [c']
    by_cases z : x.length = 0
    · have : codes x = [] := List.length_eq_zero_iff.mp (by omega)
      rw [this]; simp
    · have z0 : lo l x.length = 0 := by omega
      rw [z0, List.drop_zero, List.take_of_length_le (by omega)]
  · unfold PySem.W.KStt.codes
    rw [pick, List.map_take, List.map_drop]
theorem lo_some {i : Int} {n : Nat} (h : 0 ≤ i) : lo (some i) n = min i.toNat n := by
  show (max 0 (min (if i < 0 then i + (n : Int) else i) n)).toNat = _
  rw [if_neg (by omega)]; omega
theorem hi_some {i : Int} {n : Nat} (h : 0 ≤ i) : hi (some i) n = min i.toNat n := lo_some h
theorem hi_neg {i : Int} {n : Nat} (h : i < 0) : hi (some i) n = n - (-i).toNat := by
  show (max 0 (min (if i < 0 then i + (n : Int) else i) n)).toNat = _
  rw [if_pos h]; omega
theorem lo_none {n : Nat} : lo none n = 0 := rfl
theorem hi_none {n : Nat} : hi none n = n := by show ((n : Int)).toNat = n; omega
theorem codes_to (x : PySem.Str) {k : Int} (h : 0 ≤ k) : codes (PySem.Txt.slice x none (some k)) = (codes x).take k.toNat := by
  rw [codes_slice, lo_none, hi_some h, List.drop_zero, Nat.sub_zero]
  by_cases q : k.toNat ≤ x.length
  · rw [Nat.min_eq_left q]
  · rw [List.take_of_length_le (by rw [codes_len]; omega), List.take_of_length_le (by rw [codes_len]; omega)]
theorem codes_from (x : PySem.Str) {k : Int} (h : 0 ≤ k) : codes (PySem.Txt.slice x (some k) none) = (codes x).drop k.toNat := by
  rw [codes_slice, hi_none, lo_some h]
  by_cases q : k.toNat ≤ x.length
  · rw [Nat.min_eq_left q, List.take_of_length_le (by rw [List.length_drop, codes_len]; omega)]
  · rw [List.drop_of_length_le (by rw [codes_len]; omega), List.drop_of_length_le (by rw [codes_len]; omega)]
    simp
theorem codes_butlast (x : PySem.Str) {k : Int} (h : k < 0) : codes (PySem.Txt.slice x none (some k)) = (codes x).take (x.length - (-k).toNat) := by
  rw [codes_slice, lo_none, hi_neg h, List.drop_zero, Nat.sub_zero]
end G
end
section
open PySem PySem.W PyProof.Rows
namespace G
open PySem.W.KStt (codes)
/-! steps that hand on a letter with its signs -/
section
variable {prog : Program} {w : World} {A : Around} {E : Value → Shared → Prop} {s : Shared} {h₀ : Heap} {L : Addr} {m : PySem.Str → Option Value} {news : List (Addr × Obj)} {value slice : PySem.Expr} {x y : PySem.Str} {t u : Tok} {Q : Value → Shared → Prop}
theorem step_len (hz : x.length ≤ 16777216) (h : Q (.int x.length (s.toks + 1)) { s with toks := s.toks + 1 + 1 }) : wpAny (model prog w) A (call (.builtin "len") [.str x t]) Q E s :=
  PyProof.Rows.len_str (by omega) h
theorem step_add (hz : x.length + y.length ≤ 16777216) (h : ∀ (z : PySem.Str) (t' : Tok) (k : Nat), codes z = codes x ++ codes y → z.length = x.length + y.length → Q (.str z t') { s with toks := k }) :
    wpAny (model prog w) A (binaryOp .Add (.str x t) (.str y u)) Q E s :=
  SBL.add (fun t' k _ => h _ t' k (codes_app x y) (PySem.Str.length_append x y)) (by rw [sizeLine_eq]; omega)
theorem step_to {j : Int} {uj : Tok} (F : Fr h₀ L s.heap m) (N : News h₀ L s.heap news) (hz : x.length ≤ 16777216) (h0 : 0 ≤ j)
    (h : ∀ (z : PySem.Str) h' t' k, codes z = (codes x).take j.toNat → z.length = min j.toNat x.length → Fr h₀ L h' m → News h₀ L h' news → Q (.str z t') { s with heap := h', toks := k })
    (hs : subscripted slice false (.str x t) (.ref s.heap.objs.size) = operate [.ref s.heap.objs.size, .str x t] (getItem (.str x t) (.ref s.heap.objs.size)))
    (ht : ∀ r, letTemporaryGo value (.str x t) r = pure ()) :
    wpAny (model prog w) A (subscriptTail value slice (.str x t) (.ref s.heap.objs.size)) Q E { s with heap := s.heap.push { cls := .type "slice", data := .fields #[.none, .int j uj, .none] } } :=
  PyProof.Rows.slice_strN_ns F N (fun h' t' k F' N' => h _ h' t' k (codes_to x h0) (by rw [← codes_len, codes_to x h0, List.length_take, codes_len]) F' N') hs ht (by rw [sizeLine_eq]; exact hz)
theorem step_butlast {j : Int} {uj : Tok} (F : Fr h₀ L s.heap m) (N : News h₀ L s.heap news) (hz : x.length ≤ 16777216) (h0 : j < 0)
    (h : ∀ (z : PySem.Str) h' t' k, codes z = (codes x).take (x.length - (-j).toNat) → z.length = x.length - (-j).toNat → Fr h₀ L h' m → News h₀ L h' news → Q (.str z t') { s with heap := h', toks := k })
    (hs : subscripted slice false (.str x t) (.ref s.heap.objs.size) = operate [.ref s.heap.objs.size, .str x t] (getItem (.str x t) (.ref s.heap.objs.size)))
    (ht : ∀ r, letTemporaryGo value (.str x t) r = pure ()) :
    wpAny (model prog w) A (subscriptTail value slice (.str x t) (.ref s.heap.objs.size)) Q E { s with heap := s.heap.push { cls := .type "slice", data := .fields #[.none, .int j uj, .none] } } :=
  PyProof.Rows.slice_strN_ns F N (fun h' t' k F' N' => h _ h' t' k (codes_butlast x h0) (by rw [← codes_len, codes_butlast x h0, List.length_take, codes_len]; omega) F' N') hs ht (by rw [sizeLine_eq]; exact hz)
theorem step_from {j : Int} {uj : Tok} (F : Fr h₀ L s.heap m) (N : News h₀ L s.heap news) (hz : x.length ≤ 16777216) (h0 : 0 ≤ j)
    (h : ∀ (z : PySem.Str) h' t' k, codes z = (codes x).drop j.toNat → z.length = x.length - j.toNat → Fr h₀ L h' m → News h₀ L h' news → Q (.str z t') { s with heap := h', toks := k })
    (hs : subscripted slice false (.str x t) (.ref s.heap.objs.size) = operate [.ref s.heap.objs.size, .str x t] (getItem (.str x t) (.ref s.heap.objs.size)))
    (ht : ∀ r, letTemporaryGo value (.str x t) r = pure ()) :
    wpAny (model prog w) A (subscriptTail value slice (.str x t) (.ref s.heap.objs.size)) Q E { s with heap := s.heap.push { cls := .type "slice", data := .fields #[.int j uj, .none, .none] } } :=
  PyProof.Rows.slice_strN_sn F N (fun h' t' k F' N' => h _ h' t' k (codes_from x h0) (by rw [← codes_len, codes_from x h0, List.length_drop, codes_len]) F' N') hs ht (by rw [sizeLine_eq]; exact hz)
theorem charAt_pos {x : PySem.Str} {i : Int} (h0 : 0 ≤ i) (h1 : i < x.length) : ∃ c : Nat, PySem.Txt.charAt x i = some c ∧ (codes x)[i.toNat]? = some (c : Int) := by
  have hb : i.toNat < x.cps.size := by show i.toNat < x.length; omega
  have e : PySem.Txt.charAt x i = x.cps[i.toNat]? := by
    unfold PySem.Txt.charAt seqIndex?
    dsimp only
    rw [if_neg (show ¬ i < 0 by omega), if_pos (by rw [decide_eq_true h0, decide_eq_true h1]; rfl)]
    rfl
  refine ⟨x.cps[i.toNat], ?_, ?_⟩
  · rw [e]; exact Array.getElem?_eq_getElem hb
  · exact PySem.W.KStt.code_at (Array.getElem?_eq_getElem hb)
theorem charAt_neg {x : PySem.Str} {i : Int} (h0 : i < 0) (h1 : -(x.length : Int) ≤ i) : ∃ c : Nat, PySem.Txt.charAt x i = some c ∧ (codes x)[x.length - (-i).toNat]? = some (c : Int) := by
  have hb : x.length - (-i).toNat < x.cps.size := by show x.length - (-i).toNat < x.length; omega
  have e : PySem.Txt.charAt x i = x.cps[x.length - (-i).toNat]? := by
    unfold PySem.Txt.charAt seqIndex?
    dsimp only
    have a : 0 ≤ i + (x.length : Int) := by omega
    have b : i + (x.length : Int) < x.length := by omega
    have c : (i + (x.length : Int)).toNat = x.length - (-i).toNat := by omega
    rw [if_pos h0, if_pos (by rw [decide_eq_true a, decide_eq_true b]; rfl), c]
    rfl
  refine ⟨x.cps[x.length - (-i).toNat], ?_, ?_⟩
  · rw [e]; exact Array.getElem?_eq_getElem hb
  · exact PySem.W.KStt.code_at (Array.getElem?_eq_getElem hb)
theorem step_item {i : Int} (hz : x.length ≤ 16777216) (h0 : 0 ≤ i) (h1 : i < x.length) (h : ∀ c : Nat, (codes x)[i.toNat]? = some (c : Int) → (⟨#[c]⟩ : PySem.Str).length = 1 → Q (.str ⟨#[c]⟩ s.toks) { s with toks := s.toks + 1 })
    (hs : subscripted slice false (.str x t) (.int i u) = operate [.str x t, .int i u] (getItem (.str x t) (.int i u)))
    (ht : ∀ r, letTemporaryGo value (.str x t) r = pure ()) :
    wpAny (model prog w) A (subscriptTail value slice (.str x t) (.int i u)) Q E s := by
  obtain ⟨c, hc, hq⟩ := charAt_pos h0 h1
  refine PyProof.Rows.item_str (fitsSsize_of (N := 9223372036854775808) (by omega) (by omega) (Int.le_refl _)) (by omega) h1 (fun _ => ?_) hs ht
  have e : PySem.Txt.item x i = ⟨#[c]⟩ := by unfold PySem.Txt.item; rw [hc]; rfl
  rw [e]
  exact h c hq rfl
theorem step_back {i : Int} (hz : x.length ≤ 16777216) (h0 : i < 0) (h1 : -(x.length : Int) ≤ i) (h : ∀ c : Nat, (codes x)[x.length - (-i).toNat]? = some (c : Int) → (⟨#[c]⟩ : PySem.Str).length = 1 → Q (.str ⟨#[c]⟩ s.toks) { s with toks := s.toks + 1 })
    (hs : subscripted slice false (.str x t) (.int i u) = operate [.str x t, .int i u] (getItem (.str x t) (.int i u)))
    (ht : ∀ r, letTemporaryGo value (.str x t) r = pure ()) :
    wpAny (model prog w) A (subscriptTail value slice (.str x t) (.int i u)) Q E s := by
  obtain ⟨c, hc, hq⟩ := charAt_neg h0 h1
  refine PyProof.Rows.item_str (fitsSsize_of (N := 9223372036854775808) (by omega) (by omega) (Int.le_refl _)) h1 (by omega) (fun _ => ?_) hs ht
  have e : PySem.Txt.item x i = ⟨#[c]⟩ := by unfold PySem.Txt.item; rw [hc]; rfl
  rw [e]
  exact h c hq rfl
/-- a sign of the 37 at a number counted round -/
theorem step_sign {i : Int} (h0 : 0 ≤ i) (h1 : i < 37) (h : ∀ c : Nat, (c : Int) = sgn i → (c : Int) ∈ sgl → (⟨#[c]⟩ : PySem.Str).length = 1 → Q (.str ⟨#[c]⟩ s.toks) { s with toks := s.toks + 1 })
    (hs : subscripted slice false (.str sg t) (.int i u) = operate [.str sg t, .int i u] (getItem (.str sg t) (.int i u)))
    (ht : ∀ r, letTemporaryGo value (.str sg t) r = pure ()) :
    wpAny (model prog w) A (subscriptTail value slice (.str sg t) (.int i u)) Q E s := by
  refine step_item (by rw [sg_len]; decide) h0 (by rw [sg_len]; exact h1) (fun c hc _ => ?_) hs ht
  rw [codes_sg] at hc
  have e : (c : Int) = sgn i := by unfold sgn; rw [List.getD_eq_getElem?_getD, hc]; rfl
  exact h c e (e ▸ sgn_in h0 h1) rfl
theorem find_tab : ∀ c ∈ sgl, PySem.Txt.find sg ⟨#[c.toNat]⟩ = num c ∧ (PySem.Builtin.Str.occurrences sg ⟨#[c.toNat]⟩ 0 sg.length 1).isEmpty = false := by decide +kernel
theorem find_sg {c : Nat} (h : (c : Int) ∈ sgl) : PySem.Txt.find sg ⟨#[c]⟩ = num c ∧ (PySem.Builtin.Str.occurrences sg ⟨#[c]⟩ 0 sg.length 1).isEmpty = false := by
  have t := find_tab (c : Int) h
  rwa [Int.toNat_natCast] at t
theorem step_index {c : Nat} (hA : A.handled = none) (hc : (c : Int) ∈ sgl) (h : 0 ≤ num c → num c < 37 → Q (.int (num c) s.toks) { s with toks := s.toks + 1 }) :
    wpAny (model prog w) A (call (.builtin "str.index") [.str sg t, .str ⟨#[c]⟩ u]) Q E s := by
  obtain ⟨e, o⟩ := find_sg hc
  refine index_or hA (fun _ z => absurd z (by rw [o]; decide)) fun _ _ => ?_
  rw [e]
  exact h (num_lo hc) (num_hi hc)
end
end G
end
section
open PySem PySem.W PyProof.Rows
namespace G
open PySem.W.KStt (codes)
theorem sub_one {x : PySem.Str} {c i : Nat} (h : PySem.Builtin.Str.subAt x ⟨#[c]⟩ i = true) : (c : Int) ∈ codes x := by
  rw [StrLaws.subAt_eq] at h
  have e : List.take 1 (List.drop i x.cps.toList) = [c] := eq_of_beq h
  have m : c ∈ x.cps.toList := by
    have : c ∈ List.take 1 (List.drop i x.cps.toList) := by rw [e]; exact List.mem_singleton.mpr rfl
    exact List.mem_of_mem_drop (List.mem_of_mem_take this)
  exact List.mem_map.mpr ⟨c, m, rfl⟩
theorem occ_sg (c : Nat) : (!(PySem.Builtin.Str.occurrences sg ⟨#[c]⟩ 0 sg.length 1).isEmpty) = decide ((c : Int) ∈ sgl) := by
  by_cases h : (c : Int) ∈ sgl
  · rw [(find_sg h).2, decide_eq_true h]; rfl
  · rw [decide_eq_false h]
    cases o : PySem.Builtin.Str.occurrences sg ⟨#[c]⟩ 0 sg.length 1 with
    | nil => rfl
    | cons i r =>
      have q := (StrLaws.occ_spec sg ⟨#[c]⟩ 0 sg.length 1 i (by rw [o]; exact List.mem_cons_self ..)).2
      have z := sub_one q
      rw [codes_sg] at z
      exact absurd z h
section
variable {prog : Program} {w : World} {A : Around} {E : Value → Shared → Prop} {s : Shared} {x y : PySem.Str} {t u : Tok} {Q : Value → Shared → Prop} {c : Nat}
theorem step_in (h : Q (.bool (decide ((c : Int) ∈ sgl))) s) : wpAny (model prog w) A (compareOp .In (.str ⟨#[c]⟩ u) (.str sg t)) Q E s :=
  PyProof.Rows.in_str (by rw [occ_sg]; exact h)
theorem step_notin (h : Q (.bool (!decide ((c : Int) ∈ sgl))) s) : wpAny (model prog w) A (compareOp .NotIn (.str ⟨#[c]⟩ u) (.str sg t)) Q E s :=
  PyProof.Rows.notIn_str (by rw [occ_sg]; exact h)
theorem beq_codes (x y : PySem.Str) : (x == y) = decide (codes x = codes y) := by
  by_cases h : codes x = codes y
  · rw [decide_eq_true h, codes_inj h]; exact beq_self_eq_true _
  · rw [decide_eq_false h]
    exact beq_eq_false_iff_ne.mpr fun e => h (by rw [e])
/-- two texts compared, by their signs -/
theorem step_eqT (h : Q (.bool (decide (codes x = codes y))) s) : wpAny (model prog w) A (compareOp .Eq (.str x t) (.str y u)) Q E s :=
  PyProof.Rows.eq_str (by rw [beq_codes]; exact h)
theorem step_neT (h : Q (.bool (!decide (codes x = codes y))) s) : wpAny (model prog w) A (compareOp .NotEq (.str x t) (.str y u)) Q E s :=
  PyProof.Rows.ne_str (by
    have e : (x != y) = !decide (codes x = codes y) := by rw [← beq_codes]; rfl
    rw [e]; exact h)
theorem step_eq_yes (e : codes x = codes y) (h : Q (.bool true) s) : wpAny (model prog w) A (compareOp .Eq (.str x t) (.str y u)) Q E s := step_eqT (by rw [decide_eq_true e]; exact h)
theorem step_ne_no (e : codes x = codes y) (h : Q (.bool false) s) : wpAny (model prog w) A (compareOp .NotEq (.str x t) (.str y u)) Q E s := step_neT (by rw [decide_eq_true e]; exact h)
end
end G
end
section
open PySem PySem.W PyProof.Rows
namespace G
open PySem.W.KStt (codes)
theorem isW_of {z a b : PySem.Str} (e : codes z = codes a ++ codes b) (ha : IsW a) (hb : IsW b) : IsW z := ⟨by
  rw [e]
  intro c h
  rcases List.mem_append.mp h with h | h
  · exact ha.all c h
  · exact hb.all c h⟩
theorem isW_one {c : Nat} (h : (c : Int) ∈ sgl) : IsW ⟨#[c]⟩ := ⟨by
  rw [codes_one]
  intro d hd
  rw [List.mem_singleton.mp hd]
  exact h⟩
theorem wordL_start : (PySem.Str.ofString "").length ≤ ([] : List Int).length ∧ (PySem.Str.ofString "").length ≤ 63 ∧ IsW (PySem.Str.ofString "") := ⟨by decide +kernel, by decide +kernel, isW_nil⟩
theorem wordL_turn {pre : List Int} {v : Int} {line z : PySem.Str} {c : Nat} (e : codes z = codes line ++ codes ⟨#[c]⟩) (hc : (c : Int) ∈ sgl) (hw : IsW line) (h : z.length ≤ pre.length + 1) (h' : z.length ≤ 63) :
    z.length ≤ (pre ++ [v]).length ∧ z.length ≤ 63 ∧ IsW z := by
  refine ⟨?_, h', isW_of e hw (isW_one hc)⟩
  rw [List.length_append]
  exact h
end G
end
section
open PySem PySem.W PyProof.Rows
namespace G
open PySem.W.KStt (codes)
/-- signs that are none of the 37 -/
structure Odd (c : Nat) : Prop where
  no : ¬ (c : Int) ∈ sgl
abbrev marks : PySem.Str := PySem.Str.ofString " !\"#$&'()*+,/:;<=>?@ABCDEFGHIJKLMNOPQRSTUVWXYZ[\\]^_`{|}~"
theorem marks_odd : ∀ c ∈ codes marks, ¬ c ∈ sgl := by decide +kernel
theorem marks_len : marks.length = 56 := by decide +kernel
theorem odd_of {x : PySem.Str} {i : Nat} {c : Nat} (h : ∀ d ∈ codes x, ¬ d ∈ sgl) (e : (codes x)[i]? = some (c : Int)) : Odd c := ⟨h _ (List.mem_of_getElem? e)⟩
structure AllOdd (x : PySem.Str) : Prop where
  all : ∀ d ∈ codes x, ¬ d ∈ sgl
structure HasOdd (x : PySem.Str) : Prop where
  has : ∃ c ∈ codes x, ¬ c ∈ sgl
theorem dot_odd : ∀ d ∈ codes (PySem.Str.ofString "."), ¬ d ∈ sgl := by decide +kernel
section
variable {prog : Program} {w : World} {A : Around} {E : Value → Shared → Prop} {s : Shared} {value slice : PySem.Expr} {x : PySem.Str} {t u : Tok} {Q : Value → Shared → Prop}
theorem step_mark {i : Int} (h0 : 0 ≤ i) (h1 : i < 56) (h : ∀ c : Nat, Odd c → (⟨#[c]⟩ : PySem.Str).length = 1 → Q (.str ⟨#[c]⟩ s.toks) { s with toks := s.toks + 1 })
    (hs : subscripted slice false (.str marks t) (.int i u) = operate [.str marks t, .int i u] (getItem (.str marks t) (.int i u)))
    (ht : ∀ r, letTemporaryGo value (.str marks t) r = pure ()) :
    wpAny (model prog w) A (subscriptTail value slice (.str marks t) (.int i u)) Q E s :=
  step_item (by rw [marks_len]; decide) h0 (by rw [marks_len]; exact h1) (fun c hc l => h c (odd_of marks_odd hc) l) hs ht
end
/-- "." + odd, one of the two taken -/
theorem pick_odd {z : PySem.Str} {c d : Nat} {i : Nat} (hc : Odd c) (e : codes z = codes (PySem.Str.ofString ".") ++ codes ⟨#[c]⟩) (h : (codes z)[i]? = some (d : Int)) : Odd d := by
  refine odd_of (x := z) (fun q hq => ?_) h
  rw [e] at hq
  rcases List.mem_append.mp hq with hq | hq
  · exact dot_odd q hq
  · rw [codes_one] at hq
    rw [List.mem_singleton.mp hq]
    exact hc.no
theorem has_odd {a z y b : PySem.Str} {c : Nat} (e : codes z = codes a ++ codes ⟨#[c]⟩) (e' : codes y = codes z ++ codes b) (hc : Odd c) : HasOdd y :=
  ⟨c, by rw [e', e, codes_one]; simp, hc.no⟩
def isWb (x : PySem.Str) : Bool := (codes x).all fun c => decide (c ∈ sgl)
theorem isWb_yes {x : PySem.Str} (h : IsW x) : isWb x = true := List.all_eq_true.mpr fun c hc => decide_eq_true (h.all c hc)
theorem isWb_no {x : PySem.Str} (h : HasOdd x) : isWb x = false := by
  obtain ⟨c, hc, ho⟩ := h.has
  exact List.all_eq_false.mpr ⟨c, hc, by rw [decide_eq_false ho]; decide⟩
theorem isW_of_b {x : PySem.Str} (h : isWb x = true) : IsW x := ⟨fun c hc => of_decide_eq_true (List.all_eq_true.mp h c hc)⟩
structure AllW (pre : List Int) : Prop where
  all : ∀ c ∈ pre, c ∈ sgl
theorem allW0 : AllW [] := ⟨fun _ h => nomatch h⟩
theorem allW1 {pre : List Int} {c : Nat} (h : AllW pre) (hc : (c : Int) ∈ sgl) : AllW (pre ++ [(c : Int)]) := ⟨fun d hd => by
  rcases List.mem_append.mp hd with hd | hd
  · exact h.all d hd
  · rw [List.mem_singleton.mp hd]; exact hc⟩
theorem isWb_end {x : PySem.Str} (h : AllW (codes x)) : true = isWb x := (isWb_yes ⟨h.all⟩).symm
theorem isWb_out {x : PySem.Str} {pre post : List Int} {c : Nat} (e : codes x = pre ++ (c : Int) :: post) (h : ¬ (c : Int) ∈ sgl) : false = isWb x := (isWb_no ⟨c, by rw [e]; simp, h⟩).symm
end G
end
section
namespace G
theorem fm_lt {x k : Int} {n : Nat} (hk : 0 < k) (h : k ≤ n) : Int.fmod x k < n := Int.lt_of_lt_of_le (Int.fmod_lt_of_pos x hk) h
theorem fm_nn {x k : Int} (hk : 0 < k) : 0 ≤ Int.fmod x k := Int.fmod_nonneg_of_pos x hk
end G
end
section
open PySem PySem.W PyProof.Rows
namespace G
open PySem.W.KStt (codes)
section
variable {prog : Program} {w : World} {A : Around} {E : Value → Shared → Prop} {s : Shared} {env : Env} {h₀ : Heap} {x : PySem.Str} {body : List Stmt} {Q : Flow → Shared → Prop}
/-- a loop over a text's signs that stores nothing for a later turn -/
theorem text_search {xt : PySem.Str} {tx : Tok} {m₀ : PySem.Str → Option Value} {news : List (Addr × Obj)} (P : List Int → Prop) (stored : List PySem.Str)
    (hh : A.handled = none) (F : Fr h₀ env.locals s.heap m₀) (N : News h₀ env.locals s.heap news) (hp : P [])
    (turn : ∀ (pre post : List Int) (n : Nat) t (u : PySem.Str → Option Value) h tk own, codes xt = pre ++ (n : Int) :: post → OwnOff own (news.map (·.1)) → P pre →
      Fr h₀ env.locals h (fun y => if y = x then some (.str ⟨#[n]⟩ t) else kstB (fun z => if stored.contains z then u z else m₀ z) [] y) → News h₀ env.locals h (news ++ own) →
      wpAny (model prog w) A (execs body env) (InvPostN h₀ env.locals (KstS (fun _ : Unit => news) (fun _ => []) (fun _ => True) x stored m₀ (fun pre _ => P pre) (pre ++ [(n : Int)])) own (news.map (·.1)) { s with heap := h, toks := tk } Q) E { s with heap := h, toks := tk })
    (done : ∀ (u : PySem.Str → Option Value) h tk, P (codes xt) → Fr h₀ env.locals h (fun y => if y = x then u y else kstB (fun z => if stored.contains z then u z else m₀ z) [] y) → News h₀ env.locals h news → Q .next { s with heap := h, toks := tk }) :
    wpAny (model prog w) A (pyIter (.str xt tx)) (fun it s₂ => LoopAtV prog w A h₀ env x body Q E it s₂) E s :=
  PySem.W.KStt.kst_text (fun _ : Unit => news) (fun _ => []) (fun _ => True) stored (fun pre _ => P pre) () hh F N True.intro (List.forall_mem_nil _) hp
    (fun _ pre post n t u h tk own e o _ p F' N' => turn pre post n t u h tk own e o p F' N') (fun _ u h tk _ p F' N' => done u h tk p F' N')
end
end G
end
section
open PySem PySem.W PyProof.Rows PySem.Calls PySem.Spec
set_option maxHeartbeats 4000000
namespace G
section
variable {M : Model} {A : Around} {E : Value → Shared → Prop}
variable {n1 q1 n2 q2 : PySem.Str} {C1 N1 C2 N2 : Addr} {bs1 bm1 bs2 bm2 : List Value} {d1 d2 : Bool} {sn1 sn2 : List PySem.Str} {su1 su2 : List Value} {ab1 ab2 : Bool} {co1 co2 : Option Bool} {dd1 dd2 : Option Addr} {k0 k1 k2 k3 k5 j0 j1 j2 j3 j5 : Option Value} {new1 new2 : String}
/-- an error of an own class, held against an own class that stands above it -/
theorem matches_up {h : Heap} {g : Array GenState} {d : Drawn} {t : Nat} {os : OsState} {e : Addr} {oe : Obj} {Q : Bool → Shared → Prop}
    (h1 : h.get? C1 = some (excClassObj n1 q1 C1 N1 bs1 bm1 d1 sn1 su1 ab1 co1 dd1 k0 k1 k2 k3 k5 new1)) (h2 : h.get? C2 = some (excClassObj n2 q2 C2 N2 bs2 bm2 d2 sn2 su2 ab2 co2 dd2 j0 j1 j2 j3 j5 new2))
    (he : h.get? e = some oe) (hc : oe.cls = .ref C1) (hb : bm2.contains (.type "BaseException") = true) (hu : (Value.ref C1 :: bm1).contains (.ref C2) = true)
    (hq : Q true ⟨h, g, d, t, os⟩) : wpAny M A (excMatches (.ref e) (.ref C2)) Q E ⟨h, g, d, t, os⟩ := by
  have e2 : (Value.ref C2 :: bm2).contains (.type "BaseException") = true := by rw [List.contains_cons, hb, Bool.or_true]
  have f := tc_notTuple
  unfold excMatches
  repeat (first | (with_reducible refine wpAny_loadPart_at he ?_; rw [hc]) | with_reducible refine wpAny_loadPart_at h2 ?_ | (with_reducible refine wpAny_isSubtype_exc h2 ?_; rw [e2]) | (with_reducible refine wpAny_isSubtype_exc h1 ?_; rw [hu]) | wp_step)
  exact hq
end
def upIn (K : Frag) (C1 C2 : Addr) : Bool := match K.lookup C1 with
  | some ⟨_, _, .cls cd, _⟩ => cd.mro.contains (.ref C2)
  | _ => false
theorem upIn_at {K : Frag} {C1 C2 : Addr} {h : Heap} (X : K.In h) (q : upIn K C1 C2 = true) {n1 q1 : PySem.Str} {N1 : Addr} {bs1 bm1 : List Value} {d1 : Bool} {sn1 : List PySem.Str} {su1 : List Value} {ab1 : Bool} {co1 : Option Bool} {dd1 : Option Addr} {k0 k1 k2 k3 k5 : Option Value} {new1 : String}
    (h1 : h.get? C1 = some (excClassObj n1 q1 C1 N1 bs1 bm1 d1 sn1 su1 ab1 co1 dd1 k0 k1 k2 k3 k5 new1)) : (Value.ref C1 :: bm1).contains (.ref C2) = true := by
  unfold upIn at q
  split at q
  · rename_i a b cd c ho
    have e := X _ _ ho
    rw [h1] at e
    have e' := Option.some.inj e
    have e2 : (excClassObj n1 q1 C1 N1 bs1 bm1 d1 sn1 su1 ab1 co1 dd1 k0 k1 k2 k3 k5 new1).data = .cls cd := by rw [e']
    have e3 : cd.mro = Value.ref C1 :: bm1 := by
      unfold excClassObj at e2
      injection e2 with e4
      rw [← e4]
    rw [e3] at q
    exact q
  · cases q
end G
end
section
open PySem PySem.W PyProof.Rows PySem.Calls PySem.Spec
set_option maxHeartbeats 4000000
namespace G
section
variable {prog : Program} {w : World} {B₀ : Around} {E : Value → Shared → Prop} {z : Shared} {g₀ g : Heap} {fs : List Env} {L fa er tu : Addr} {lm : PySem.Str → Option Value} {fn : PySem.Str} {fsc : Scope} {co : Value}
  {args : List Value} {nm : PySem.Str} {st : Stmt} {sts : List Stmt} {p1 p2 : Pos} {more : List ExceptHandler} {Q : Flow → Shared → Prop} {led : List (Addr × Obj)} {KF : Frag} {C1 C2 : Addr} {bm1 bm2 : List Value} {new1 new2 : String}
  {pr : Program} {loose : List PySem.Str} {mg mb : PySem.Str → Option Value} {x1 x2 : PySem.Str}
/-- except Base as e, where the error's own class stands under the own class Base -/
theorem caught_up (bel : Below B₀ g₀ fs g₀) (fr : Fr g₀ L g lm) (up : g.UpToSlots z.heap) (ra : RaisedK g₀ (envOf fn fsc L fa co :: fs) er (.ref C1) tu args led z.heap)
    (kin : KF.In g₀) (top : TopRead pr loose mg mb g₀) (b1 : nsIn KF mainGlobals x1 = some (some (.ref C1))) (q1 : excIn KF C1 bm1 new1 = true) (b2 : nsIn KF mainGlobals x2 = some (some (.ref C2))) (q2 : excIn KF C2 bm2 new2 = true) (qu : upIn KF C1 C2 = true)
    (hb : bm2.contains (.type "BaseException") = true)
    (go : ∀ h' led₂ tk, Fr g₀ L h' (fun y => if y = nm then some (.ref er) else lm y) → News g₀ L h' led₂ → Got led₂ er tu (.ref C1) args → News g₀ L h' led →
      wpAny (model prog w) ((B₀.deeper (envOf fn fsc L fa co)).mark (some (.ref er))) (execs (st :: sts) (envOf fn fsc L fa co))
        (fun f s₄ => wpAny (model prog w) (B₀.deeper (envOf fn fsc L fa co)) (do bindName (envOf fn fsc L fa co) nm .none; unbindBehindTheSuite (envOf fn fsc L fa co) nm p2) (fun _ s₅ => Q f s₅) E s₄)
        (AsSuiteRaised (model prog w) ((B₀.deeper (envOf fn fsc L fa co)).mark (some (.ref er))) (envOf fn fsc L fa co) nm p2 (notedBy (model prog w) ((B₀.deeper (envOf fn fsc L fa co)).mark (some (.ref er))) (envOf fn fsc L fa co) (cameBackBy (model prog w) (B₀.deeper (envOf fn fsc L fa co)) (envOf fn fsc L fa co) E)))
        { z with heap := h', toks := tk })
    (hk : fsc.kind = .function := by rfl) (hlo : (envOf fn fsc L fa co).kindOf nm = some .local := by rfl) (hx : (envOf fn fsc L fa co).kindOf x2 = some .globalImplicit := by rfl) (hd : (x2 == ("__debug__" : PySem.Str)) = false := by decide) :
    wpAny (model prog w) (B₀.deeper (envOf fn fsc L fa co)) (noteFrame (.ref er) (envOf fn fsc L fa co))
      (fun _ s₂ => wpAny (model prog w) (B₀.deeper (envOf fn fsc L fa co)) (setFlight (.ref er) none) (fun _ s₃ =>
        wpAny (model prog w) (B₀.deeper (envOf fn fsc L fa co)) (handleBy (.ref er) (envOf fn fsc L fa co) (.ExceptHandler (some (.Name x2 p1)) (some nm) (st :: sts) p2 :: more)) Q E s₃) E s₂) E z := by
  obtain ⟨⟨bb, sB, inB, fly, tuB⟩, tup⟩ := ra
  have frB : bb.get? L = none := by
    obtain ⟨_, ⟨L2, _, ef, en, _⟩, _⟩ := fly.2.2.1
    have e2 : L = L2 := Option.some.inj ef
    rw [e2]; exact en
  refine wpAny_looks_onW (Around.frames_deeper bel.stack) rfl fly fun ha heldA smA => ?_
  refine wpAny_landsW heldA fun hb5 held smB => ?_
  have sm5 := smA.trans smB
  have held0 := flyingW_base sB held
  have fr5 := fr.of_stays held0.1 (up.trans sm5)
  obtain ⟨oe, hoe, hoc⟩ := held0.there
  refine wpAny_handleBy_cons (codeAny_handlers_test (name_K fr5 kin top b2 ?_ hk hx hd)) (by intro zz; cases zz)
  obtain ⟨_, _, _, _, _, _, _, _, _, _, _, _, _, _, _, _, _, hC1, _, _, _⟩ := ((own_of_in kin top b1 q1).keeps fr5.keep).obj
  obtain ⟨_, _, _, _, _, _, _, _, _, _, _, _, _, _, _, _, _, hC2, _, _, TL2⟩ := ((own_of_in kin top b2 q2).keeps fr5.keep).obj
  refine matches_up hC1 hC2 hoe hoc (TL2.hasType hb) (upIn_at (kin.keeps fr5.keep) qu hC1) (codeAny_handlers_suite_as ?_)
  refine lands_againW held fun h6 fl6 sm6 => ?_
  have fl6' := flyingW_base sB fl6
  have fr6 := fr.of_stays fl6'.1 ((up.trans sm5).trans sm6)
  obtain ⟨o6, ws, g6, c6, d6, z6⟩ := fl6'.first
  obtain ⟨ot, nt, gt, ct, dt⟩ := (tup.of_slots sm5).of_slots sm6
  have nw6 := News.more fr6 (News.more fr6 News.nil gt (fun es n q => by rw [dt] at q; cases q) (fresh_of_stays sB tuB)) g6 (fun es n q => by rw [d6] at q; cases q) fl6'.2.1
  have nwl : News g₀ L h6 led := fun q hq => ⟨fl6.1 _ _ (inB q hq).1, (fun zz => by have := (inB q hq).1; rw [zz, frB] at this; cases this), (inB q hq).2⟩
  refine stN fr6 (news := _ ++ led) (fun q hq => (List.mem_append.mp hq).elim (nw6 q) (nwl q)) (fun h7 fr7 nw7 => ?_) hk hlo
  exact go h7 _ _ fr7 (fun q hq => nw7 q (List.mem_append_left _ hq)) ⟨o6, ot, ws, nt, .head _, .tail _ (.head _), c6, d6, z6, ct, dt⟩ fun q hq => nw7 q (List.mem_append_right _ hq)
end
end G
end
section
namespace G
/-! numbers counted round at 37 -/
def inv37 : List Int := [0, 1, 19, 25, 28, 15, 31, 16, 14, 33, 26, 27, 34, 20, 8, 5, 7, 24, 35, 2, 13, 30, 32, 29, 17, 3, 10, 11, 4, 23, 21, 6, 22, 9, 12, 18, 36]
def turn (n : Int) : Int := inv37.getD (n % 37).toNat 0
theorem hit_tab : ∀ k : Fin 37, ∀ r : Fin 37, ((k.val : Int) * (r.val : Int)) % 37 = 1 → (k.val : Int) = inv37.getD r.val 0 := by decide +kernel
theorem turn_tab : ∀ r : Fin 37, r.val ≠ 0 → ((r.val : Int) * inv37.getD r.val 0) % 37 = 1 := by decide +kernel
theorem turn_rng : ∀ r : Fin 37, 0 ≤ inv37.getD r.val 0 ∧ inv37.getD r.val 0 ≤ 36 := by decide +kernel
theorem zero_tab : ∀ a : Fin 37, ∀ b : Fin 37, ((a.val : Int) * (b.val : Int)) % 37 = 0 → a.val = 0 ∨ b.val = 0 := by decide +kernel
theorem mod_lo (n : Int) : 0 ≤ n % 37 := Int.emod_nonneg n (by decide)
theorem mod_hi (n : Int) : n % 37 < 37 := Int.emod_lt_of_pos n (by decide)
theorem mul_mod (k n : Int) : (k * n) % 37 = (k * (n % 37)) % 37 := by
  rw [Int.mul_emod, Int.mul_emod k (n % 37), Int.emod_emod_of_dvd]
  exact Int.dvd_refl _
theorem mul_mod' (k n : Int) : (k * n) % 37 = ((k % 37) * n) % 37 := by
  rw [Int.mul_comm, mul_mod, Int.mul_comm]
theorem hit {k n : Int} (h : (k * n) % 37 = 1) (h0 : 0 ≤ k) (h1 : k < 37) : k = turn n := by
  have a := mod_lo n
  have b := mod_hi n
  have t := hit_tab ⟨k.toNat, by omega⟩ ⟨(n % 37).toNat, by omega⟩
  rw [mul_mod] at h
  have ek : ((k.toNat : Nat) : Int) = k := by omega
  have en : (((n % 37).toNat : Nat) : Int) = n % 37 := by omega
  dsimp only at t
  rw [ek, en] at t
  exact t h
theorem turn_good {n : Int} (h : n % 37 ≠ 0) : (turn n * n) % 37 = 1 := by
  have a := mod_lo n
  have b := mod_hi n
  have t := turn_tab ⟨(n % 37).toNat, by omega⟩ (by show (n % 37).toNat ≠ 0; omega)
  have en : (((n % 37).toNat : Nat) : Int) = n % 37 := by omega
  dsimp only at t
  rw [en] at t
  rw [mul_mod, Int.mul_comm]
  exact t
theorem turn_in (n : Int) : 0 ≤ turn n ∧ turn n ≤ 36 := by
  have a := mod_lo n
  have b := mod_hi n
  exact turn_rng ⟨(n % 37).toNat, by omega⟩
theorem turn_zero {n : Int} (h : n % 37 = 0) : turn n = 0 := by
  unfold turn; rw [h]; rfl
theorem prime {a b : Int} (h : (a * b) % 37 = 0) : a % 37 = 0 ∨ b % 37 = 0 := by
  have a0 := mod_lo a
  have a1 := mod_hi a
  have b0 := mod_lo b
  have b1 := mod_hi b
  have t := zero_tab ⟨(a % 37).toNat, by omega⟩ ⟨(b % 37).toNat, by omega⟩
  dsimp only at t
  rw [show (((a % 37).toNat : Nat) : Int) = a % 37 by omega, show (((b % 37).toNat : Nat) : Int) = b % 37 by omega] at t
  rw [mul_mod, mul_mod'] at h
  rcases t h with t | t
  · exact .inl (by omega)
  · exact .inr (by omega)
/-! weights and loads, over the signs' numbers -/
def wt (i : Nat) : Int := ((i % 36 : Nat) : Int) + 1
theorem wt_lo (i : Nat) : 1 ≤ wt i := by unfold wt; omega
theorem wt_hi (i : Nat) : wt i ≤ 36 := by unfold wt; omega
theorem wt_ne (i : Nat) : wt i % 37 ≠ 0 := by
  have := wt_lo i
  have := wt_hi i
  omega
theorem wt_step (i : Nat) : (wt (i + 1) - wt i) % 37 ≠ 0 := by unfold wt; omega
theorem wt_small {i : Nat} (h : i < 36) : wt i = (i : Int) + 1 := by unfold wt; omega
def W : Nat → List Int → Int
  | _, [] => 0
  | i, x :: r => wt i * x + W (i + 1) r
theorem W_append : ∀ (i : Nat) (a b : List Int), W i (a ++ b) = W i a + W (i + a.length) b
  | i, [], b => by simp [W]
  | i, x :: r, b => by
    rw [List.cons_append]
    simp only [W, List.length_cons]
    rw [W_append (i + 1) r b, show i + 1 + r.length = i + (r.length + 1) by omega]
    omega
theorem W_one (i : Nat) (x : Int) : W i [x] = wt i * x := by simp [W]
/-- one number made another -/
theorem W_repl (i : Nat) (a b : List Int) (x y : Int) : W i (a ++ y :: b) = W i (a ++ x :: b) + wt (i + a.length) * (y - x) := by
  rw [W_append, W_append]
  simp only [W]
  rw [Int.mul_sub]
  omega
/-- two neighbours changed about -/
theorem W_swap (i : Nat) (a b : List Int) (x y : Int) : W i (a ++ y :: x :: b) = W i (a ++ x :: y :: b) + (wt (i + a.length + 1) - wt (i + a.length)) * (x - y) := by
  rw [W_append, W_append]
  simp only [W]
  rw [Int.sub_mul, Int.mul_sub, Int.mul_sub]
  omega
theorem sum_repl (a b : List Int) (x y : Int) : (a ++ y :: b).sum = (a ++ x :: b).sum + (y - x) := by
  simp only [List.sum_append, List.sum_cons]
  omega
/-- a difference of two of the 37 numbers that is alike to nought is nought -/
theorem eq_of_mod {x y : Int} (x0 : 0 ≤ x) (x1 : x < 37) (y0 : 0 ≤ y) (y1 : y < 37) (h : (y - x) % 37 = 0) : x = y := by omega
theorem add_mod0 {a b : Int} (ha : a % 37 = 0) (h : (a + b) % 37 = 0) : b % 37 = 0 := by omega
/-- point 6, one sign -/
theorem repl_noticed {i : Nat} {a b : List Int} {x y : Int} (h : W i (a ++ x :: b) % 37 = 0) (x0 : 0 ≤ x) (x1 : x < 37) (y0 : 0 ≤ y) (y1 : y < 37) (hne : x ≠ y) : W i (a ++ y :: b) % 37 ≠ 0 := by
  intro h'
  rw [W_repl i a b x y] at h'
  rcases prime (add_mod0 h h') with q | q
  · exact wt_ne _ q
  · exact hne (eq_of_mod x0 x1 y0 y1 q)
/-- point 6, two neighbours -/
theorem swap_noticed {i : Nat} {a b : List Int} {x y : Int} (h : W i (a ++ x :: y :: b) % 37 = 0) (x0 : 0 ≤ x) (x1 : x < 37) (y0 : 0 ≤ y) (y1 : y < 37) (hne : x ≠ y) : W i (a ++ y :: x :: b) % 37 ≠ 0 := by
  intro h'
  rw [W_swap i a b x y] at h'
  rcases prime (add_mod0 h h') with q | q
  · exact wt_step _ q
  · exact hne (eq_of_mod y0 y1 x0 x1 q).symm
/-- one equation: r + w * x alike to nought has the answer -r * turn w -/
theorem solve {r w : Int} (h : w % 37 ≠ 0) : (r + w * ((0 - r * turn w) % 37)) % 37 = 0 := by
  have e : (w * ((0 - r * turn w) % 37)) % 37 = (0 - r) % 37 := by
    rw [← mul_mod]
    have t := turn_good h
    have z : w * (0 - r * turn w) = (0 - r) * (turn w * w) := by
      rw [Int.mul_sub, Int.sub_mul, Int.mul_zero, Int.zero_mul, ← Int.mul_assoc, Int.mul_comm w, Int.mul_assoc, Int.mul_comm w]
    rw [z, mul_mod, t, Int.mul_one]
  omega
theorem solve_only {r w x y : Int} (h : w % 37 ≠ 0) (hx : (r + w * x) % 37 = 0) (hy : (r + w * y) % 37 = 0) (x0 : 0 ≤ x) (x1 : x < 37) (y0 : 0 ≤ y) (y1 : y < 37) : x = y := by
  have e : w * (y - x) = (r + w * y) - (r + w * x) := by rw [Int.mul_sub]; omega
  rcases prime (a := w) (b := y - x) (by rw [e]; omega) with q | q
  · exact absurd q h
  · exact eq_of_mod x0 x1 y0 y1 q
/-- the two guard signs of n numbers with the sum s and the weighed sum w, n at most 34 -/
theorem two_guards {l : List Int} (hn : l.length ≤ 34) :
    ((l ++ [(0 - l.sum - ((l.length : Int) + 1) * l.sum + W 0 l) % 37, (((l.length : Int) + 1) * l.sum - W 0 l) % 37]).sum % 37 = 0) ∧
    W 0 (l ++ [(0 - l.sum - ((l.length : Int) + 1) * l.sum + W 0 l) % 37, (((l.length : Int) + 1) * l.sum - W 0 l) % 37]) % 37 = 0 := by
  have e0 : wt (0 + l.length) = (l.length : Int) + 1 := by rw [Nat.zero_add]; exact wt_small (by omega)
  have e1 : wt (0 + l.length + 1) = (l.length : Int) + 2 := by rw [Nat.zero_add, wt_small (by omega)]; omega
  refine ⟨?_, ?_⟩
  · rw [List.sum_append]
    simp only [List.sum_cons, List.sum_nil]
    omega
  · rw [W_append]
    simp only [W]
    rw [e0, e1]
    generalize hk : ((l.length : Int) + 1) = k
    have ek : (l.length : Int) + 2 = k + 1 := by omega
    rw [ek]
    generalize l.sum = s
    generalize W 0 l = w
    have m1 : (k * ((0 - s - k * s + w) % 37)) % 37 = (k * (0 - s - k * s + w)) % 37 := (mul_mod _ _).symm
    have m2 : ((k + 1) * ((k * s - w) % 37)) % 37 = ((k + 1) * (k * s - w)) % 37 := (mul_mod _ _).symm
    have z : k * (0 - s - k * s + w) + (k + 1) * (k * s - w) = 0 - w := by
      have p : k * (0 - s - k * s + w) = 0 - k * s - k * (k * s) + k * w := by
        rw [Int.mul_add, Int.mul_sub, Int.mul_sub, Int.mul_zero]
      have q : (k + 1) * (k * s - w) = k * (k * s) - k * w + (k * s - w) := by
        rw [Int.add_mul, Int.one_mul, Int.mul_sub]
      omega
    omega
theorem two_only {s w k x y x' y' : Int} (h1 : (s + x + y) % 37 = 0) (h2 : (w + k * x + (k + 1) * y) % 37 = 0) (h3 : (s + x' + y') % 37 = 0) (h4 : (w + k * x' + (k + 1) * y') % 37 = 0)
    (x0 : 0 ≤ x) (x1 : x < 37) (y0 : 0 ≤ y) (y1 : y < 37) (x0' : 0 ≤ x') (x1' : x' < 37) (y0' : 0 ≤ y') (y1' : y' < 37) : x = x' ∧ y = y' := by
  have a : (k * (x + y - x' - y')) % 37 = 0 := by
    rw [mul_mod, show (x + y - x' - y') % 37 = 0 by omega, Int.mul_zero]
    rfl
  have b : k * (x + y - x' - y') = (k * x + (k + 1) * y) - y - (k * x' + (k + 1) * y') + y' := by
    rw [Int.mul_sub, Int.mul_sub, Int.mul_add, Int.add_mul, Int.add_mul, Int.one_mul, Int.one_mul]
    omega
  have c : y = y' := by omega
  exact ⟨by omega, c⟩
/-- one number made other by -p, where p is the sum: the sum is alike to nought, and the weighed sum just where wt k * p is alike to it -/
theorem mend_sum {a b : List Int} {x p : Int} (hp : p % 37 = (a ++ x :: b).sum % 37) : (a ++ ((x - p) % 37) :: b).sum % 37 = 0 := by
  rw [sum_repl a b x ((x - p) % 37)]
  omega
theorem mend_W {a b : List Int} {x p : Int} : W 0 (a ++ ((x - p) % 37) :: b) % 37 = (W 0 (a ++ x :: b) - wt a.length * p) % 37 := by
  rw [W_repl 0 a b x ((x - p) % 37), Nat.zero_add]
  have e : (wt a.length * ((x - p) % 37 - x)) % 37 = (wt a.length * (0 - p)) % 37 := by
    rw [mul_mod, mul_mod _ (0 - p)]
    congr 2
    omega
  have z : wt a.length * (0 - p) = 0 - wt a.length * p := by rw [Int.mul_sub, Int.mul_zero]
  omega
/-- any sound text that differs in that place is that one -/
theorem mend_only {a b : List Int} {x y p : Int} (hp : p % 37 = (a ++ x :: b).sum % 37) (h : (a ++ y :: b).sum % 37 = 0) (y0 : 0 ≤ y) (y1 : y < 37) : y = (x - p) % 37 := by
  rw [sum_repl a b x y] at h
  omega
/-- the place is known by its weight -/
theorem place {k p q : Int} (hp : p % 37 ≠ 0) (k0 : 0 < k) (k1 : k < 37) : (q - k * p) % 37 = 0 ↔ k = (q * turn p) % 37 := by
  have t := turn_good hp
  have f : (k * p * turn p) % 37 = k % 37 := by
    rw [Int.mul_assoc, mul_mod, Int.mul_comm p, t, Int.mul_one]
  constructor
  · intro h
    have e : (q * turn p) % 37 = (k * p * turn p) % 37 := by
      rw [mul_mod' q, mul_mod' (k * p), show q % 37 = (k * p) % 37 by omega]
    omega
  · intro h
    have e : (k * p) % 37 = q % 37 := by
      rw [h, ← mul_mod', Int.mul_assoc, mul_mod, t, Int.mul_one]
    omega
end G
end
section
open PySem PySem.W PyProof.Rows
namespace G
open PySem.W.KStt (codes)
/-! the law's own loads: a text's signs, taken one by one, the weight counted along -/
def hv (n : Nat) : Int := if n = 0 then 0 else wt (n - 1)
theorem hv_lo (n : Nat) : 0 ≤ hv n := by unfold hv wt; split <;> omega
theorem hv_hi (n : Nat) : hv n ≤ 36 := by unfold hv wt; split <;> omega
theorem hv_next (n : Nat) : hv (n + 1) = wt n := by unfold hv; rw [if_neg (by omega)]; rfl
theorem hv_round {n : Nat} (h : hv n + 1 = 37) : wt n = 1 := by
  unfold hv at h
  split at h
  · omega
  · unfold wt at *; omega
theorem hv_on {n : Nat} (h : ¬ hv n + 1 = 37) : wt n = hv n + 1 := by
  unfold hv at *
  split at h
  · rename_i z; rw [z]; decide
  · rename_i z
    rw [if_neg z]
    unfold wt at *
    omega
structure LD (pre : List Int) (p w h : Int) : Prop where
  p : p = (pre.map num).sum
  w : w = W 0 (pre.map num)
  h : h = hv pre.length
theorem ld0 : LD [] 0 0 0 := ⟨rfl, rfl, rfl⟩
theorem ld_round {pre : List Int} {p w h : Int} {c : Nat} (d : LD pre p w h) (e : h + 1 = 37) : LD (pre ++ [(c : Int)]) (p + num c) (w + 1 * num c) 1 := by
  have r := hv_round (n := pre.length) (by rw [← d.h]; exact e)
  refine ⟨?_, ?_, ?_⟩
  · rw [List.map_append, List.sum_append, ← d.p]; simp
  · rw [List.map_append, W_append, ← d.w, List.length_map, Nat.zero_add]
    simp only [List.map_cons, List.map_nil, W]
    rw [r]; omega
  · rw [List.length_append]; show (1 : Int) = hv (pre.length + 1); rw [hv_next, r]
theorem ld_on {pre : List Int} {p w h : Int} {c : Nat} (d : LD pre p w h) (e : ¬ h + 1 = 37) : LD (pre ++ [(c : Int)]) (p + num c) (w + (h + 1) * num c) (h + 1) := by
  have r := hv_on (n := pre.length) (by rw [← d.h]; exact e)
  refine ⟨?_, ?_, ?_⟩
  · rw [List.map_append, List.sum_append, ← d.p]; simp
  · rw [List.map_append, W_append, ← d.w, List.length_map, Nat.zero_add]
    simp only [List.map_cons, List.map_nil, W]
    rw [r, ← d.h]; omega
  · rw [List.length_append]; show h + 1 = hv (pre.length + 1); rw [hv_next, r, ← d.h]
/-- the plain and the weighed load of a text -/
def pl (x : PySem.Str) : Int := ((codes x).map num).sum
def wl (x : PySem.Str) : Int := W 0 ((codes x).map num)
theorem lens : (PySem.Str.ofString ".").length = 1 ∧ (PySem.Str.ofString "").length = 0 ∧ (PySem.Str.ofString "0").length = 1 ∧ sg.length = 37 := by decide +kernel
end G
end
section
open PySem PySem.W PyProof.Rows PySem.Calls PySem.Spec
set_option Elab.async false
set_option maxHeartbeats 4000000
namespace G
open PySem.W.KStt (codes)
open PyProof.Rows.LCg
/-! a list made sign by sign from a text -/
def BEl (news : List (Addr × Obj)) (b : Bool) (y : Value) (news' : List (Addr × Obj)) : Prop := news' = news ∧ y = .bool b
def TextSrc (prog : Program) (w : World) (A : Around) (h₀ : Heap) (L : Addr) (m : PySem.Str → Option Value) (env : Env) (elt : PySem.Expr) (x : PySem.Str) (scope : Scope) (cl : List (PySem.Str × Addr)) (Fin : Shared → List Value → List (Addr × Obj) → Prop) (xv : Value) (s₁ : Shared) : Prop :=
  ∃ y t news, xv = .str y t ∧ A.handled = none ∧ Fr h₀ L s₁.heap m ∧ News h₀ L s₁.heap news ∧ y.length ≤ sizeLine ∧
    ∀ g : Heap, CompRest prog w A h₀ L m env elt x scope cl { s₁ with heap := g } (fun _ => True) (SignAt y) (Fin { s₁ with heap := g }) y.cps.size 0 [] news
section
variable {prog : Program} {w : World} {A : Around} {E : Value → Shared → Prop} {s : Shared} {h₀ : Heap} {L : Addr} {m : PySem.Str → Option Value} {env : Env} {elt iter : PySem.Expr} {x : PySem.Str} {scope : Scope} {cl : List (PySem.Str × Addr)}
theorem TextSrc.intro {Fin : Shared → List Value → List (Addr × Obj) → Prop} {y : PySem.Str} {t : Tok} {news : List (Addr × Obj)} {s₁ : Shared} (hh : A.handled = none) (F : Fr h₀ L s₁.heap m) (N : News h₀ L s₁.heap news) (hz : y.length ≤ 16777216)
    (h : ∀ g : Heap, CompRest prog w A h₀ L m env elt x scope cl { s₁ with heap := g } (fun _ => True) (SignAt y) (Fin { s₁ with heap := g }) y.cps.size 0 [] news) : TextSrc prog w A h₀ L m env elt x scope cl Fin (.str y t) s₁ :=
  ⟨y, t, news, rfl, hh, F, N, by rw [sizeLine_eq]; exact hz, h⟩
theorem text_block {px : Pos} {pos : Pos} {Q : Value → Shared → Prop} {y : PySem.Str} {t : Tok} {T : String} {news : List (Addr × Obj)} {s₁ : Shared}
    (W : Walks prog w A s₁.heap.objs.size [s₁.heap.objs.size] [s₁.heap.objs.size] y.cps.size (SignAt y) (fun i h => h.IsStrIter s₁.heap.objs.size T y t i))
    (hcell : ∀ y ∈ scope.names, y.2 ≠ .cell) (hkind : scope.kind = .function) (hx : scope.names.lookup x = some .local)
    (F : Fr h₀ L s₁.heap m) (N : News h₀ L s₁.heap news) (hsz : y.length ≤ sizeLine)
    (R : ∀ g : Heap, CompRest prog w A h₀ L m env elt x scope cl { s₁ with heap := g } (fun _ => True) (SignAt y) (FinE h₀ L m { s₁ with heap := g } Q) y.cps.size 0 [] news) :
    wpAny (model prog w) A (newList []) (fun acc s₃ => wpAny (model prog w) A (newFunctionEnv scope env.globals cl [] env.qual none .none (some env)) (fun cenv s₄ =>
      codeAny (model prog w) A (.compStart (.ListComp elt [⟨.Name x px, iter, [], 0⟩] scope pos) 0 (.ref s₁.heap.objs.size) acc { cenv with scope := relabel scope env })
        (compPost (model prog w) A E none Q acc cenv.locals) s₄) E s₃) E { s₁ with heap := s₁.heap.push { cls := .type T, data := .fields #[.str y t, .int 0 0] } } := by
  refine block_U W hsz (fun i h st => let ⟨o, ho, _⟩ := st; ⟨o, ho⟩) (fun i h h' o nw st e e' _ _ _ => by obtain ⟨o', q, r⟩ := st; rw [e] at q; cases q; exact ⟨o, e', r⟩) hcell hkind hx ⟨_, Heap.get?_push_size _ rfl, rfl, rfl⟩ (fun b hb => ?_)
      (F.keeps fun _ _ e => Heap.get?_push_of_some _ e) (N.grown fun _ _ e => Heap.get?_push_of_some _ e) (Nat.ne_of_lt F.ns.lt) (next_is_new F) (fun p hp => Nat.ne_of_lt (Heap.lt_size (N p hp).1)) trivial (R _) ?_
  · rw [List.mem_singleton.mp hb]
    show s₁.heap.objs.size < (s₁.heap.push _).objs.size
    rw [Heap.size_push]; exact Nat.lt_succ_self _
  · intro D C h tk m' ys news' F' N' o1 hn hC₀ hD₀ hCL hDL hCD offC fin
    refine ⟨m', hn, fun h'' hs'' => fin D h'' tk (F'.change hs'' hCL hC₀) (fun p hp => ?_) o1⟩
    refine ⟨hs''.extBut _ _ ?_ (N' p hp).1, (N' p hp).2⟩
    rcases List.mem_cons.mp hp with rfl | hp
    · exact Ne.symm hCD
    · exact offC p hp
theorem ListComp_text {px : Pos} {pos : Pos} {Q : Value → Shared → Prop} (_F₀ : Fr h₀ L s.heap m)
    (hclos : closureFor scope env = pure cl) (hcell : ∀ y ∈ scope.names, y.2 ≠ .cell) (hkind : scope.kind = .function)
    (hnames : ∀ y ∈ scope.names, y.2 = .local → scope.names.lookup y.1 = some .local) (hx : scope.names.lookup x = some .local)
    (h : wpAny (model prog w) A (eval iter env) (TextSrc prog w A h₀ L m env elt x scope cl (fun s₂ => FinE h₀ L m s₂ Q)) E s)
    (hs : ∀ x, foldedSetIterable iter env x = pure x := by intro _; rfl) :
    wpAny (model prog w) A (eval (.ListComp elt [⟨.Name x px, iter, [], 0⟩] scope pos) env) Q E s := by
  rw [eval_ListComp]
  refine wpAny_comprehension_free (use := none) rfl hs hclos hkind hnames (wpAny_mono h (fun xv s₁ h₁ => ?_) fun _ _ e => e)
  obtain ⟨y, t, news, rfl, hh, F, N, hsz, R⟩ := h₁
  cases ha : y.cps.all (· < 128)
  · exact wpAny_pyIter_wide ha (text_block (Walks.strWide hh _ y t) hcell hkind hx F N hsz R)
  · exact wpAny_pyIter_ascii ha (text_block (Walks.strAscii hh _ y t) hcell hkind hx F N hsz R)
theorem text_ints {y : PySem.Str} {news : List (Addr × Obj)} {Fin : List Value → List (Addr × Obj) → Prop} (g : Nat → Int)
    (turn : ∀ (c : Nat) u I oI C oC D m₂ ys h tk (E' : Value → Shared → Prop), (c : Int) ∈ codes y → NsObj oC m₂ → m₂ x = some (.str ⟨#[c]⟩ u) → Fr h₀ L h m → News h₀ L h ((I, oI) :: (C, oC) :: (D, lst ys) :: news) → Off3 I C D news → ((@Ne Nat I C) ∧ (@Ne Nat I D) ∧ (@Ne Nat C D)) → KPfMark →
      wpAny (model prog w) A (eval elt (compEnvC scope cl C env)) (CompEnd h₀ L m { s with heap := h, toks := tk } I oI C oC D (lst ys) (fun _ => True) (fun v news' => KCfEl news (g c) v news')) E' { s with heap := h, toks := tk })
    (fin : ∀ ys, IntsAre ys (y.cps.toList.map g) → Fin ys news) : CompRest prog w A h₀ L m env elt x scope cl s (fun _ => True) (SignAt y) Fin y.cps.size 0 [] news := by
  have key : ∀ (j i : Nat) (ys : List Value), i + j = y.cps.size → IntsAre ys ((y.cps.toList.take i).map g) → CompRest prog w A h₀ L m env elt x scope cl s (fun _ => True) (SignAt y) Fin j i ys news := by
    intro j
    induction j with
    | zero =>
      intro i ys hi hy
      rw [List.take_of_length_le (by rw [Array.length_toList]; omega)] at hy
      exact CompRest.zero (fin ys hy)
    | succ j ih =>
      intro i ys hi hy
      refine CompRest.succ ?_
      rintro v I oI C oC D m₂ h tk E' ⟨c, u, hc, rfl⟩ hC hx F N off ne
      have hc' : y.cps.toList[i]? = some c := by rw [Array.getElem?_toList]; exact hc
      refine wpAny_mono (turn c u I oI C oC D m₂ ys h tk E' (List.mem_map.mpr ⟨c, List.mem_of_getElem? hc', rfl⟩) hC hx F N off ne True.intro) (fun v s₂ hq => ?_) fun _ _ e => e
      obtain ⟨h', tk', nw, e, F', N', off', hS, hn, t', hy'⟩ := hq
      rw [hn] at N' off'
      refine ⟨h', tk', news, e, F', N', off', hS, ?_⟩
      rw [hy']
      refine ih (i + 1) _ (by omega) ?_
      rw [List.take_add_one, hc']
      simpa using IntsAre.append hy (.cons (g c) t' .nil)
  exact key y.cps.size 0 [] (by omega) (by simp only [List.take_zero, List.map_nil]; exact .nil)
theorem bools_snoc {b : Bool} : ∀ {vs : List Value} {bs : List Bool}, LSm.BoolsAre vs bs → LSm.BoolsAre (vs ++ [.bool b]) (bs ++ [b])
  | _, _, .nil => .cons b .nil
  | _, _, .cons c r => .cons c (bools_snoc r)
theorem text_bools {y : PySem.Str} {news : List (Addr × Obj)} {Fin : List Value → List (Addr × Obj) → Prop} (g : Nat → Bool)
    (turn : ∀ (c : Nat) u I oI C oC D m₂ ys h tk (E' : Value → Shared → Prop), NsObj oC m₂ → m₂ x = some (.str ⟨#[c]⟩ u) → Fr h₀ L h m → News h₀ L h ((I, oI) :: (C, oC) :: (D, lst ys) :: news) → Off3 I C D news → ((@Ne Nat I C) ∧ (@Ne Nat I D) ∧ (@Ne Nat C D)) → KPfMark →
      wpAny (model prog w) A (eval elt (compEnvC scope cl C env)) (CompEnd h₀ L m { s with heap := h, toks := tk } I oI C oC D (lst ys) (fun _ => True) (fun v news' => BEl news (g c) v news')) E' { s with heap := h, toks := tk })
    (fin : ∀ ys, LSm.BoolsAre ys (y.cps.toList.map g) → Fin ys news) : CompRest prog w A h₀ L m env elt x scope cl s (fun _ => True) (SignAt y) Fin y.cps.size 0 [] news := by
  have key : ∀ (j i : Nat) (ys : List Value), i + j = y.cps.size → LSm.BoolsAre ys ((y.cps.toList.take i).map g) → CompRest prog w A h₀ L m env elt x scope cl s (fun _ => True) (SignAt y) Fin j i ys news := by
    intro j
    induction j with
    | zero =>
      intro i ys hi hy
      rw [List.take_of_length_le (by rw [Array.length_toList]; omega)] at hy
      exact CompRest.zero (fin ys hy)
    | succ j ih =>
      intro i ys hi hy
      refine CompRest.succ ?_
      rintro v I oI C oC D m₂ h tk E' ⟨c, u, hc, rfl⟩ hC hx F N off ne
      have hc' : y.cps.toList[i]? = some c := by rw [Array.getElem?_toList]; exact hc
      refine wpAny_mono (turn c u I oI C oC D m₂ ys h tk E' hC hx F N off ne True.intro) (fun v s₂ hq => ?_) fun _ _ e => e
      obtain ⟨h', tk', nw, e, F', N', off', hS, hn, hy'⟩ := hq
      rw [hn] at N' off'
      refine ⟨h', tk', news, e, F', N', off', hS, ?_⟩
      rw [hy']
      refine ih (i + 1) _ (by omega) ?_
      rw [List.take_add_one, hc']
      simpa using bools_snoc hy
  exact key y.cps.size 0 [] (by omega) (by simp only [List.take_zero, List.map_nil]; exact .nil)
theorem bEnd {h₀ : Heap} {L I C D : Addr} {m : PySem.Str → Option Value} {s₁ : Shared} {oI oC oD : Obj} {b : Bool} {h' : Heap} {tk : Nat} {all news : List (Addr × Obj)}
    (F : Fr h₀ L h' m) (N : News h₀ L h' all) (sub : ∀ p ∈ (I, oI) :: (C, oC) :: (D, oD) :: news, p ∈ all) (off : Off3 I C D news) :
    CompEnd h₀ L m s₁ I oI C oC D oD (fun _ => True) (fun v news' => BEl news b v news') (.bool b) { s₁ with heap := h', toks := tk } :=
  CompEnd.intro F N news sub off trivial ⟨rfl, rfl⟩
end
end G
end
section
open PySem PySem.W PyProof.Rows PySem.Calls PySem.Spec
set_option Elab.async false
set_option maxHeartbeats 4000000
namespace G
open PySem.W.KStt (codes)
open PyProof.Rows.LCg
/-! a list made from enumerate(text) -/
def gl (g : Nat → Nat → Int) : Nat → List Nat → List Int
  | _, [] => []
  | i, c :: r => g i c :: gl g (i + 1) r
theorem gl_snoc (g : Nat → Nat → Int) : ∀ (i : Nat) (a : List Nat) (c : Nat), gl g i (a ++ [c]) = gl g i a ++ [g (i + a.length) c]
  | i, [], c => rfl
  | i, d :: r, c => by
    show g i d :: gl g (i + 1) (r ++ [c]) = g i d :: (gl g (i + 1) r ++ [g (i + (r.length + 1)) c])
    rw [gl_snoc g (i + 1) r c, show i + 1 + r.length = i + (r.length + 1) by omega]
theorem fr_two {h₀ h h' : Heap} {L a b : Addr} {m : PySem.Str → Option Value} (F : Fr h₀ L h m) (hk : ∀ p o, p ∉ [a, b] → h.get? p = some o → h'.get? p = some o) (ha : L ≠ a) (hb : L ≠ b) (ha₀ : h₀.get? a = none) (hb₀ : h₀.get? b = none) : Fr h₀ L h' m :=
  ⟨F.ns.at' fun o e => hk L o (by simp [ha, hb]) e, fun p o e => hk p o (fun hm => by
    rcases List.mem_cons.mp hm with q | hm
    · rw [q, ha₀] at e; cases e
    · rw [List.mem_singleton.mp hm, hb₀] at e; cases e) (F.keep p o e), F.above⟩
theorem news_two {h₀ h h' : Heap} {L a b : Addr} {news : List (Addr × Obj)} (N : News h₀ L h news) (hk : ∀ p o, p ∉ [a, b] → h.get? p = some o → h'.get? p = some o) (off : ∀ p ∈ news, p.1 ≠ a ∧ p.1 ≠ b) : News h₀ L h' news :=
  fun p hp => ⟨hk _ _ (by have := off p hp; simp [this.1, this.2]) (N p hp).1, (N p hp).2⟩
section
variable {prog : Program} {w : World} {A : Around} {E : Value → Shared → Prop} {s : Shared} {h₀ : Heap} {L : Addr} {m : PySem.Str → Option Value} {env : Env} {elt iter : PySem.Expr} {x x₂ : PySem.Str} {scope : Scope} {cl : List (PySem.Str × Addr)}
/-- one turn's element -/
def EnumTurn (prog : Program) (w : World) (A : Around) (h₀ : Heap) (L : Addr) (m : PySem.Str → Option Value) (env : Env) (elt : PySem.Expr) (x x₂ : PySem.Str) (scope : Scope) (cl : List (PySem.Str × Addr)) (s : Shared) (y : PySem.Str) (news : List (Addr × Obj)) (g : Nat → Nat → Int) : Prop :=
  ∀ (i c : Nat) t u I oI T oT C oC D m₂ ys h tk (E' : Value → Shared → Prop), (c : Int) ∈ codes y → i < y.length → NsObj oC m₂ → m₂ x = some (.int i t) → m₂ x₂ = some (.str ⟨#[c]⟩ u) → Fr h₀ L h m → News h₀ L h ((I, oI) :: (C, oC) :: (D, lst ys) :: (T, oT) :: news) → Off3 I C D ((T, oT) :: news) → ((@Ne Nat I C) ∧ (@Ne Nat I D) ∧ (@Ne Nat C D)) → KPfMark →
      wpAny (model prog w) A (eval elt (compEnvC scope cl C env)) (CompEnd h₀ L m { s with heap := h, toks := tk } I oI C oC D (lst ys) (fun _ => True) (fun v news' => KCfEl ((T, oT) :: news) (g i c) v news')) E' { s with heap := h, toks := tk }
theorem enum_block {px px₂ tp : Pos} {tk : Nat} {pos : Pos} {s₂ : Shared} {e it : Addr} {y : PySem.Str} {Ty : String} {t : Tok} {news : List (Addr × Obj)} {g : Nat → Nat → Int} {Q : Value → Shared → Prop}
    (D₀ : Draws prog w A.in1 it [it] y.cps.size (fun i v => ∃ c u, y.cps[i]? = some c ∧ v = .str ⟨#[c]⟩ u) (fun i h => h.IsStrIter it Ty y t i))
    (hsz : y.length ≤ sizeLine) (hei : e ≠ it) (hcell : ∀ y ∈ scope.names, y.2 ≠ .cell) (hkind : scope.kind = .function) (hx : scope.names.lookup x = some .local) (hx₂ : scope.names.lookup x₂ = some .local) (hxx : ¬ x = x₂) (hh : A.handled = none)
    (he : IsEnum s₂.heap e it 0 .none) (hi₀ : s₂.heap.IsStrIter it Ty y t 0)
    (F : Fr h₀ L s₂.heap m) (N : News h₀ L s₂.heap news) (heL : L ≠ e) (hiL : L ≠ it) (he₀ : h₀.get? e = none) (hi₁ : h₀.get? it = none) (off : ∀ p ∈ news, p.1 ≠ e ∧ p.1 ≠ it)
    (turn : EnumTurn prog w A h₀ L m env elt x x₂ scope cl s₂ y news g)
    (fin : ∀ ys, IntsAre ys (gl g 0 y.cps.toList) → FinE h₀ L m s₂ Q ys news) :
    wpAny (model prog w) A (newList []) (fun acc s₃ => wpAny (model prog w) A (newFunctionEnv scope env.globals cl [] env.qual none .none (some env)) (fun cenv s₄ =>
      codeAny (model prog w) A (.compStart (.ListComp elt [⟨.Tuple [.Name x px, .Name x₂ px₂] tk tp, iter, [], 0⟩] scope pos) 0 (.ref e) acc { cenv with scope := relabel scope env }) (compPost (model prog w) A E none Q acc cenv.locals) s₄) E s₃) E s₂ := by
  have W := WalksT.enumerateD D₀ e hei (by simpa using hei) (List.mem_singleton.mpr rfl)
  refine wpAny_newObj_type (wpAny_newFunctionEnv hcell (by intro y hy; simp at hy) (fun h₁ hns₁ hsb₁ => ?_) hkind)
  dsimp only at hns₁ hsb₁ ⊢
  generalize hH2 : s₂.heap.push { cls := .type "list", dict := none, data := .seq ([] : List Value).toArray } = H2 at hns₁ hsb₁ ⊢
  have hC : H2.objs.size = s₂.heap.objs.size + 1 := by rw [← hH2, Heap.size_push]
  have hDC : s₂.heap.objs.size ≠ H2.objs.size := by rw [hC]; exact Nat.ne_of_lt (Nat.lt_succ_self _)
  have below : ∀ b, b < s₂.heap.objs.size → b ≠ H2.objs.size ∧ b ≠ s₂.heap.objs.size := fun b hb => ⟨by rw [hC]; exact Nat.ne_of_lt (Nat.lt_succ_of_lt hb), Nat.ne_of_lt hb⟩
  have helt : e < s₂.heap.objs.size := Heap.lt_size he
  have hilt : it < s₂.heap.objs.size := by obtain ⟨_, q, _⟩ := hi₀; exact Heap.lt_size q
  have old : ∀ b o, s₂.heap.get? b = some o → h₁.get? b = some o := fun b o q => hsb₁.extBut b o (below b (Heap.lt_size q)).1 (Heap.get?_push_of_some _ (hH2 ▸ Heap.get?_push_of_some _ q))
  have hacc : h₁.get? s₂.heap.objs.size = some (lst []) := hsb₁.extBut _ _ hDC (Heap.get?_push_of_some _ (hH2 ▸ Heap.get?_push_size _ rfl))
  have hst₁ : (∃ old, IsEnum h₁ e it ((0 : Nat) : Int) old) ∧ h₁.IsStrIter it Ty y t 0 := ⟨⟨_, old _ _ he⟩, by obtain ⟨o, q, r⟩ := hi₀; exact ⟨o, old _ _ q, r⟩⟩
  have fresh : ∀ a, s₂.heap.objs.size ≤ a → s₂.heap.get? a = none := fun a ha => by
    cases q : s₂.heap.get? a with
    | none => rfl
    | some o' => exact absurd (Heap.lt_size q) (Nat.not_lt.mpr ha)
  have fresh₀ : ∀ a, s₂.heap.objs.size ≤ a → h₀.get? a = none := fun a ha => by
    cases q : h₀.get? a with
    | none => rfl
    | some o' => have := F.keep a o' q; rw [fresh a ha] at this; cases this
  have hD₀ : h₀.get? s₂.heap.objs.size = none := fresh₀ _ (Nat.le_refl _)
  have hC₀ : h₀.get? H2.objs.size = none := fresh₀ _ (by rw [hC]; exact Nat.le_succ _)
  have hLlt : L < s₂.heap.objs.size := F.ns.lt
  have hDL : s₂.heap.objs.size ≠ L := Ne.symm (below L hLlt).2
  have hCL : H2.objs.size ≠ L := Ne.symm (below L hLlt).1
  have hCe := (below e helt).1
  have hDe := (below e helt).2
  have hCi := (below it hilt).1
  have hDi := (below it hilt).2
  have offN : ∀ p ∈ news, p.1 ≠ H2.objs.size ∧ p.1 ≠ s₂.heap.objs.size := fun p hp => below _ (Heap.lt_size (N p hp).1)
  have loop : ∀ s₃ : Shared, s₃ = { s₂ with heap := h₁, toks := s₂.toks + ([] : List (PySem.Str × Value)).length } →
      codeAny (model prog w) A (.compLoop (.ListComp elt [⟨.Tuple [.Name x px, .Name x₂ px₂] tk tp, iter, [], 0⟩] scope pos) 0 (.ref e) (.ref s₂.heap.objs.size) (compEnvC scope cl H2.objs.size env))
        (compPost (model prog w) A E none Q (.ref s₂.heap.objs.size) H2.objs.size) s₃ := by
    rintro s₃ rfl
    refine LCp.codeAny_compLoop_pair
      (fun k s' => ∃ h' tk i ys m', s' = { s₂ with heap := h', toks := tk } ∧ i ≤ y.cps.size ∧ k = y.cps.size + 1 - i ∧ ys.length = i ∧ IntsAre ys (gl g 0 (y.cps.toList.take i)) ∧ ((∃ old, IsEnum h' e it ((i : Nat) : Int) old) ∧ h'.IsStrIter it Ty y t i) ∧ Fr h₀ L h' m ∧ h'.Ns H2.objs.size m' ∧
        News h₀ L h' ((s₂.heap.objs.size, lst ys) :: news)) ?_ (y.cps.size + 1)
      ⟨h₁, _, 0, [], _, rfl, Nat.zero_le _, rfl, rfl, by simp only [List.take_zero]; exact .nil, hst₁, F.keeps old, hns₁, fun p hp => ?_⟩
    · rintro k s' ⟨h', tk', i, ys, m', rfl, hi, rfl, hyl, hI, hst', F', hn', N'⟩
      by_cases hlt : i < y.cps.size
      · refine W.item i _ _ _ hlt hst' fun T vals h₂ tk₂ hPv hTge hTup hMid hk₂ => ?_
        have hTa := W.apart _ _ _ hMid
        refine W.go _ _ _ i T _ _ _ hMid fun h₃ hst₃ hk₃ => ?_
        obtain ⟨ti, xv, ⟨c, u, hc, rfl⟩, rfl⟩ := hPv
        have hT₃ : IsTup h₃ T #[.int i ti, .str ⟨#[c]⟩ u] := by
          obtain ⟨o, q, r⟩ := hTup
          exact ⟨o, hk₃ _ _ hTa q, r⟩
        have up₃ : ∀ p o, p ∉ [e, it] → h'.get? p = some o → h₃.get? p = some o := fun p o hp q => hk₃ p o hp (hk₂ p o hp q)
        refine assign_Tuple_tuple hh hT₃ rfl rfl fun h₅ hx5 => ?_
        have he5 : ∀ p o, h₃.get? p = some o → h₅.get? p = some o := fun p o q => hx5 p o (Nat.ne_of_lt (Heap.lt_size q)) q
        have up₅ : ∀ p o, p ∉ [e, it] → h'.get? p = some o → h₅.get? p = some o := fun p o hp q => he5 p o (up₃ p o hp q)
        have hnC : h₅.Ns H2.objs.size m' := hn'.at' fun o q => up₅ _ o (by simp [Ne.symm hCe, Ne.symm hCi]) q
        refine assignInOrder_cons (wpAny_assign_Name (wpAny_storeName_local (lookup_relabel_local hx) hnC (fun h₆ hn₆ hs₆ => ?_) (by simp [compEnvC, relabel, hkind])))
        refine assignInOrder_cons (wpAny_assign_Name (wpAny_storeName_local (lookup_relabel_local hx₂) hn₆ (fun h₇ hn₇ hs₇ => ?_) (by simp [compEnvC, relabel, hkind])))
        refine assignInOrder_nil ?_
        have up₇ : ∀ p o, p ≠ H2.objs.size → h₅.get? p = some o → h₇.get? p = some o := fun p o hp q => hs₇.extBut p o hp (hs₆.extBut p o hp q)
        obtain ⟨⟨oldv, hE₃⟩, hI₃⟩ := hst₃
        have hE₇ : IsEnum h₇ e it (((i + 1 : Nat)) : Int) oldv := up₇ _ _ hCe (he5 _ _ hE₃)
        obtain ⟨oT, heT, hoT⟩ : ∃ oT : Obj, h₇.get? it = some oT ∧ ∀ h : Heap, h.get? it = some oT → h.IsStrIter it Ty y t (i + 1) := by
          obtain ⟨o, q, r⟩ := hI₃
          exact ⟨o, up₇ _ _ hCi (he5 _ _ q), fun h q' => ⟨o, q', r⟩⟩
        obtain ⟨oC, heC, hoC⟩ := ns_obj hn₇
        have F₅ : Fr h₀ L h₅ m := fr_two F' up₅ heL hiL he₀ hi₁
        have F₇ : Fr h₀ L h₇ m := (F₅.change hs₆ hCL hC₀).change hs₇ hCL hC₀
        have N₅ : News h₀ L h₅ ((s₂.heap.objs.size, lst ys) :: news) := news_two N' up₅ fun p hp => by
          rcases List.mem_cons.mp hp with rfl | hp
          · exact ⟨Ne.symm hDe, Ne.symm hDi⟩
          · exact off p hp
        have N₇ : News h₀ L h₇ ((e, _) :: (H2.objs.size, oC) :: (s₂.heap.objs.size, lst ys) :: (it, oT) :: news) := fun p hp => by
          rcases List.mem_cons.mp hp with rfl | hp
          · exact ⟨hE₇, Ne.symm heL, he₀⟩
          rcases List.mem_cons.mp hp with rfl | hp
          · exact ⟨heC, hCL, hC₀⟩
          rcases List.mem_cons.mp hp with rfl | hp
          · have z := N₅ _ List.mem_cons_self
            exact ⟨up₇ _ _ hDC z.1, z.2⟩
          rcases List.mem_cons.mp hp with rfl | hp
          · exact ⟨heT, Ne.symm hiL, hi₁⟩
          · have z := N₅ _ (List.mem_cons_of_mem _ hp)
            exact ⟨up₇ _ _ (offN p hp).1 z.1, z.2⟩
        have off3 : Off3 e H2.objs.size s₂.heap.objs.size ((it, oT) :: news) := Off3.of fun p hp => by
          rcases List.mem_cons.mp hp with rfl | hp
          · exact ⟨Ne.symm hei, hCi, hDi⟩
          · exact ⟨(off p hp).1, offN p hp⟩
        have hc' : y.cps.toList[i]? = some c := by rw [Array.getElem?_toList]; exact hc
        refine wpAny_mono (turn i c ti u e _ it oT H2.objs.size oC s₂.heap.objs.size _ ys h₇ _ _ (List.mem_map.mpr ⟨c, List.mem_of_getElem? hc', rfl⟩) hlt hoC (by simp [hxx]) (by simp) F₇ N₇ off3 ⟨hCe, hDe, Ne.symm hDC⟩ True.intro) (fun v s₄ h₄ => ?_) fun _ _ q => q
        obtain ⟨h₈, tk₈, nw, rfl, F₈, N₈, off₈, _, rfl, tv, rfl⟩ := h₄
        have zE := (N₈ _ List.mem_cons_self).1
        have zC := (N₈ (H2.objs.size, oC) (List.mem_cons_of_mem _ List.mem_cons_self)).1
        have zD := (N₈ (s₂.heap.objs.size, lst ys) (List.mem_cons_of_mem _ (List.mem_cons_of_mem _ List.mem_cons_self))).1
        have zT := (N₈ (it, oT) (List.mem_cons_of_mem _ (List.mem_cons_of_mem _ (List.mem_cons_of_mem _ List.mem_cons_self)))).1
        refine append_at (hsz := by show ys.toArray.size ≤ sizeLine; rw [List.size_toArray, hyl]; exact Nat.le_trans hi hsz) zD fun h₉ hs₉ hD₉ => ?_
        refine ⟨y.cps.size + 1 - (i + 1), by omega, h₉, tk₈, i + 1, ys ++ [.int (g i c) tv], _, rfl, hlt, rfl, by rw [List.length_append, List.length_singleton, hyl], ?_, ⟨⟨oldv, hs₉.extBut _ _ hDe zE⟩, hoT _ (hs₉.extBut _ _ hDi zT)⟩, F₈.change hs₉ hDL hD₀,
          (hoC.ns zC).sameBut hs₉ (Ne.symm hDC), fun p hp => ?_⟩
        · rw [List.take_add_one, hc']
          have z := IntsAre.append hI (.cons (g i c) tv .nil)
          have lt' : (y.cps.toList.take i).length = i := by rw [List.length_take, Array.length_toList]; omega
          show IntsAre _ (gl g 0 (y.cps.toList.take i ++ [c]))
          rw [gl_snoc, lt', Nat.zero_add]
          exact z
        · rcases List.mem_cons.mp hp with rfl | hp
          · exact ⟨hD₉.trans (congrArg some (lst_snoc ys _)), hDL, hD₀⟩
          · have z := N₈ p (List.mem_cons_of_mem _ (List.mem_cons_of_mem _ (List.mem_cons_of_mem _ (List.mem_cons_of_mem _ hp))))
            exact ⟨hs₉.extBut _ _ (offN p hp).2 z.1, z.2⟩
      · obtain rfl : i = y.cps.size := Nat.le_antisymm hi (Nat.not_lt.mp hlt)
        refine W.done _ _ _ hst' fun h₂ tk₂ hk₂ => ?_
        rw [List.take_of_length_le (by rw [Array.length_toList]; exact Nat.le_refl _)] at hI
        have F₂ : Fr h₀ L h₂ m := fr_two F' hk₂ heL hiL he₀ hi₁
        have N₂ : News h₀ L h₂ ((s₂.heap.objs.size, lst ys) :: news) := news_two N' hk₂ fun p hp => by
          rcases List.mem_cons.mp hp with rfl | hp
          · exact ⟨Ne.symm hDe, Ne.symm hDi⟩
          · exact off p hp
        have hn₂ : h₂.Ns H2.objs.size m' := hn'.at' fun o q => hk₂ _ o (by simp [Ne.symm hCe, Ne.symm hCi]) q
        refine ⟨m', hn₂, fun h'' hs'' => fin ys hI s₂.heap.objs.size h'' tk₂ (F₂.change hs'' hCL hC₀) (fun p hp => ?_) ?_⟩
        · refine ⟨hs''.extBut _ _ ?_ (N₂ p hp).1, (N₂ p hp).2⟩
          rcases List.mem_cons.mp hp with rfl | hp
          · exact hDC
          · exact (offN p hp).1
        · exact Off3.one (I := e) (C := H2.objs.size) (Off3.of fun p hp => ⟨(off p hp).1, offN p hp⟩)
    · rcases List.mem_cons.mp hp with rfl | hp
      · exact ⟨hacc, hDL, hD₀⟩
      · exact ⟨old _ _ (N p hp).1, (N p hp).2⟩
  exact codeAny_compStart_list (loop _ rfl) (W.self 0 _ _ _ hst₁ (loop _ rfl))
def EnumSrc (prog : Program) (w : World) (A : Around) (h₀ : Heap) (L : Addr) (m : PySem.Str → Option Value) (env : Env) (elt : PySem.Expr) (x x₂ : PySem.Str) (scope : Scope) (cl : List (PySem.Str × Addr)) (Fin : Shared → List Value → List (Addr × Obj) → Prop) (xv : Value) (s₁ : Shared) : Prop :=
  ∃ y t e it news g, xv = .ref e ∧ A.handled = none ∧ e ≠ it ∧ IsEnum s₁.heap e it 0 .none ∧ s₁.heap.IsStrIter it (strIterType y) y t 0 ∧ y.length ≤ sizeLine ∧ Fr h₀ L s₁.heap m ∧ News h₀ L s₁.heap news ∧ L ≠ e ∧ L ≠ it ∧ h₀.get? e = none ∧ h₀.get? it = none ∧ (∀ p ∈ news, p.1 ≠ e ∧ p.1 ≠ it) ∧
    EnumTurn prog w A h₀ L m env elt x x₂ scope cl s₁ y news g ∧ ∀ ys, IntsAre ys (gl g 0 y.cps.toList) → Fin s₁ ys news
theorem ListComp_enum {px px₂ tp : Pos} {tk : Nat} {pos : Pos} {Q : Value → Shared → Prop} (_F₀ : Fr h₀ L s.heap m)
    (hclos : closureFor scope env = pure cl) (hcell : ∀ y ∈ scope.names, y.2 ≠ .cell) (hkind : scope.kind = .function)
    (hnames : ∀ y ∈ scope.names, y.2 = .local → scope.names.lookup y.1 = some .local) (hx : scope.names.lookup x = some .local) (hx₂ : scope.names.lookup x₂ = some .local) (hxx : ¬ x = x₂)
    (h : wpAny (model prog w) A (eval iter env) (EnumSrc prog w A h₀ L m env elt x x₂ scope cl (fun s₂ => FinE h₀ L m s₂ Q)) E s)
    (hs : ∀ x, foldedSetIterable iter env x = pure x := by intro _; rfl) :
    wpAny (model prog w) A (eval (.ListComp elt [⟨.Tuple [.Name x px, .Name x₂ px₂] tk tp, iter, [], 0⟩] scope pos) env) Q E s := by
  rw [eval_ListComp]
  refine wpAny_comprehension_free (use := none) rfl hs hclos hkind hnames (wpAny_mono h (fun xv s₁ h₁ => ?_) fun _ _ e => e)
  obtain ⟨y, t, e, it, news, g, rfl, hh, hei, he, hi₀, hsz, F, N, heL, hiL, he₀, hi₁, off, turn, fin⟩ := h₁
  refine wpAny_pyIter_enum he ?_
  cases ha : y.cps.all (· < 128)
  · have hi' : s₁.heap.IsStrIter it "str_iterator" y t 0 := by simpa [strIterType, ha] using hi₀
    exact enum_block (Draws.strWide (A := A.in1) hh it y t) hsz hei hcell hkind hx hx₂ hxx hh he hi' F N heL hiL he₀ hi₁ off turn fin
  · have hi' : s₁.heap.IsStrIter it "str_ascii_iterator" y t 0 := by simpa [strIterType, ha] using hi₀
    exact enum_block (Draws.strAscii (A := A.in1) hh it y t) hsz hei hcell hkind hx hx₂ hxx hh he hi' F N heL hiL he₀ hi₁ off turn fin
theorem call_enumC {y : PySem.Str} {t : Tok} {news : List (Addr × Obj)} {Fin : Shared → List Value → List (Addr × Obj) → Prop} (g : Nat → Nat → Int) (hh : A.handled = none) (F : Fr h₀ L s.heap m) (N : News h₀ L s.heap news) (hz : y.length ≤ 16777216)
    (turn : ∀ h' : Heap, EnumTurn prog w A h₀ L m env elt x x₂ scope cl { s with heap := h' } y news g)
    (fin : ∀ (h' : Heap) ys, IntsAre ys (gl g 0 y.cps.toList) → Fin { s with heap := h' } ys news) :
    wpAny (model prog w) A (call (.type "enumerate") [.str y t]) (EnumSrc prog w A h₀ L m env elt x x₂ scope cl Fin) E s := by
  have hLs : L < s.heap.objs.size := F.ns.lt
  have hab : h₀.objs.size ≤ L := F.above
  refine call_enumerate_str fun h' he hit _ hk => ?_
  have F' : Fr h₀ L h' m := ⟨F.ns.keeps hk, fun b o e => hk b o (F.keep b o e), F.above⟩
  have N' : News h₀ L h' news := fun p hp => ⟨hk _ _ (N p hp).1, (N p hp).2⟩
  refine ⟨y, t, _, _, news, g, rfl, hh, Nat.succ_ne_self _, he, hit, by rw [sizeLine_eq]; exact hz, F', N', Nat.ne_of_lt (Nat.lt_succ_of_lt hLs), Nat.ne_of_lt hLs, ?_, ?_, fun p hp => ?_, turn h', fin h'⟩
  · exact Heap.get?_none_of_le (Nat.le_trans hab (Nat.le_of_lt (Nat.lt_succ_of_lt hLs)))
  · exact Heap.get?_none_of_le (Nat.le_trans hab (Nat.le_of_lt hLs))
  · have q := Heap.lt_size (N p hp).1
    exact ⟨Nat.ne_of_lt (Nat.lt_succ_of_lt q), Nat.ne_of_lt q⟩
end
end G
end
section
open PySem PySem.W PyProof.Rows PySem.Calls PySem.Spec
set_option Elab.async false
set_option maxHeartbeats 4000000
namespace G
open PySem.W.KStt (codes)
/-! the program's loads as functions of a text -/
def wlF (x : PySem.Str) : Int := Int.fmod (gl (fun i c => num c * (Int.fmod (i : Int) 36 + 1)) 0 x.cps.toList).sum 37
def plF (x : PySem.Str) : Int := Int.fmod (x.cps.toList.map fun (c : Nat) => num (c : Int)).sum 37
theorem codes_num (x : PySem.Str) : (codes x).map num = x.cps.toList.map fun (c : Nat) => num (c : Int) := by
  unfold PySem.W.KStt.codes
  rw [List.map_map]; rfl
theorem fmod36 (i : Nat) : Int.fmod (i : Int) 36 + 1 = wt i := by
  rw [Int.fmod_eq_emod_of_nonneg _ (by decide)]
  unfold wt
  omega
theorem gl_W : ∀ (l : List Nat) (i : Nat), (gl (fun i c => num c * (Int.fmod (i : Int) 36 + 1)) i l).sum = W i (l.map fun (c : Nat) => num (c : Int))
  | [], i => rfl
  | c :: r, i => by
    show (num c * (Int.fmod (i : Int) 36 + 1) :: gl _ (i + 1) r).sum = _
    rw [List.sum_cons, gl_W r (i + 1), List.map_cons, fmod36]
    simp only [W]
    rw [Int.mul_comm]
theorem wlF_eq (x : PySem.Str) : wlF x = wl x % 37 := by
  unfold wlF wl
  rw [gl_W, codes_num, fm]
theorem plF_eq (x : PySem.Str) : plF x = pl x % 37 := by
  unfold plF pl
  rw [codes_num, fm]
theorem wlF_lo (x : PySem.Str) : 0 ≤ wlF x := fm_lo _
theorem wlF_hi (x : PySem.Str) : wlF x < 37 := fm_hi _
theorem plF_lo (x : PySem.Str) : 0 ≤ plF x := fm_lo _
theorem plF_hi (x : PySem.Str) : plF x < 37 := fm_hi _
theorem isWb_list (x : PySem.Str) : (x.cps.toList.all fun (c : Nat) => decide ((c : Int) ∈ sgl)) = isWb x := by
  unfold isWb PySem.W.KStt.codes
  rw [List.all_map]; rfl
theorem isWb_list' (x : PySem.Str) : ((x.cps.toList.map fun (c : Nat) => decide ((c : Int) ∈ sgl)).all id) = isWb x := by
  rw [List.all_map, ← isWb_list]; rfl
/-- a sign of a text of the 37 -/
theorem sgl_of {x : PySem.Str} {c : Nat} (h : isWb x = true) (hc : (c : Int) ∈ codes x) : (c : Int) ∈ sgl := (isW_of_b h).all _ hc
/-! ways that meet: one text name, others forgotten -/
structure JoinT (h₀ : Heap) (L : Addr) (m : PySem.Str → Option Value) (x : PySem.Str) (stored : List PySem.Str) (news : List (Addr × Obj)) (P : PySem.Str → Prop) (s : Shared) (f : Flow) (s' : Shared) : Prop where
  next : f = .next
  here : ∃ (h : Heap) (tk : Nat) (line : PySem.Str) (t : Tok) (m₁ : PySem.Str → Option Value), s' = { s with heap := h, toks := tk } ∧ Fr h₀ L h m₁ ∧ News h₀ L h news ∧ (∀ p ∈ [(x, Value.str line t)], m₁ p.1 = some p.2) ∧ (∀ z, z ≠ x → (∀ p ∈ [(x, Value.str line t)], z ≠ p.1) → stored.contains z = false → m₁ z = m z) ∧ P line
section
variable {M : Model} {A : Around} {E : Value → Shared → Prop} {s : Shared} {h₀ : Heap} {L : Addr} {m : PySem.Str → Option Value} {news : List (Addr × Obj)}
theorem JoinT.intro {x : PySem.Str} {stored : List PySem.Str} {P : PySem.Str → Prop} {h : Heap} {tk : Nat} {line : PySem.Str} {t : Tok} {m₁ : PySem.Str → Option Value} {all : List (Addr × Obj)} (F : Fr h₀ L h m₁) (N : News h₀ L h all) (sub : ∀ p ∈ news, p ∈ all)
    (hx : ∀ p ∈ [(x, Value.str line t)], m₁ p.1 = some p.2) (off : ∀ z, z ≠ x → (∀ p ∈ [(x, Value.str line t)], z ≠ p.1) → stored.contains z = false → m₁ z = m z) (p : P line) : JoinT h₀ L m x stored news P s .next { s with heap := h, toks := tk } :=
  ⟨rfl, h, tk, line, t, m₁, rfl, F, fun q hq => N q (sub q hq), hx, off, p⟩
theorem join_text {t : Sem Flow} {Q : Flow → Shared → Prop} (x : PySem.Str) (stored : List PySem.Str) (P : PySem.Str → Prop) (_F : Fr h₀ L s.heap m) (_N : News h₀ L s.heap news)
    (h : wpAny M A t (JoinT h₀ L m x stored news P s) E s)
    (k : ∀ (h : Heap) (tk : Nat) (line : PySem.Str) (t : Tok) (u : PySem.Str → Option Value), P line → Fr h₀ L h (kstB (fun z => if stored.contains z then u z else m z) [(x, .str line t)]) → News h₀ L h news → Q .next { s with heap := h, toks := tk }) :
    wpAny M A t Q E s := by
  refine wpAny_mono h (fun f s' j => ?_) fun _ _ e => e
  obtain ⟨rfl, h', tk, line, tt, m₁, rfl, F, N, hx, off, p⟩ := j
  refine k h' tk line tt m₁ p ?_ N
  have em : kstB (fun z => if stored.contains z then m₁ z else m z) [(x, .str line tt)] = m₁ := by
    funext z
    refine kstB_eq hx fun hn => ?_
    have hz : z ≠ x := hn _ List.mem_cons_self
    show (if stored.contains z = true then m₁ z else m z) = m₁ z
    cases h3 : stored.contains z with
    | true => simp
    | false => simp only [Bool.false_eq_true, if_false]; exact (off z hz hn h3).symm
  rw [em]
  exact F
end
end G
end
section
open PySem PySem.W PyProof.Rows PySem.Calls PySem.Spec
set_option Elab.async false
set_option maxHeartbeats 4000000
namespace G
open PySem.W.KStt (codes)
/-! the program's defs as functions -/
def signS (n : Int) : PySem.Str := ⟨#[(sgn (Int.fmod n 37)).toNat]⟩
theorem sgn_nn : ∀ c ∈ sgl, 0 ≤ c := by decide +kernel
theorem codes_signS (n : Int) : codes (signS n) = [sgn (Int.fmod n 37)] := by
  unfold signS
  rw [codes_one, Int.toNat_of_nonneg (sgn_nn _ (sgn_in (fm_lo n) (fm_hi n)))]
theorem len_signS (n : Int) : (signS n).length = 1 := rfl
theorem signS_out {n : Int} {c : Nat} (h : (c : Int) = sgn (Int.fmod n 37)) : (⟨#[c]⟩ : PySem.Str) = signS n := by
  unfold signS
  rw [← h, Int.toNat_natCast]
def isGoodb (x : PySem.Str) : Bool := !decide (codes x = []) && isWb x && decide (wlF x = 0)
def isSoundb (x : PySem.Str) : Bool := decide (2 ≤ x.length) && decide (x.length ≤ 36) && isWb x && decide (plF x = 0) && decide (wlF x = 0)
theorem codes_empty : codes (PySem.Str.ofString "") = [] := codes_nil
theorem good1 {x : PySem.Str} (h : codes x = codes (PySem.Str.ofString "")) : false = isGoodb x := by
  unfold isGoodb; rw [codes_nil] at h; rw [decide_eq_true h]; rfl
theorem good2 {x : PySem.Str} (h : isWb x = false) : false = isGoodb x := by
  unfold isGoodb; rw [h]; simp
theorem good3 {x : PySem.Str} (h : ¬ codes x = codes (PySem.Str.ofString "")) (h' : isWb x = true) : decide (wlF x = 0) = isGoodb x := by
  unfold isGoodb; rw [codes_nil] at h; rw [decide_eq_false h, h']; rfl
theorem sound1 {x : PySem.Str} (h : ¬ (2 ≤ x.length ∧ x.length ≤ 36)) : false = isSoundb x := by
  unfold isSoundb
  by_cases a : 2 ≤ x.length
  · rw [decide_eq_false (show ¬ x.length ≤ 36 by omega)]; simp
  · rw [decide_eq_false a]; simp
theorem sound2 {x : PySem.Str} (h : isWb x = false) : false = isSoundb x := by
  unfold isSoundb; rw [h]; simp
theorem sound3 {x : PySem.Str} (h : ¬ plF x = 0) : false = isSoundb x := by
  unfold isSoundb; rw [decide_eq_false h]; simp
theorem sound4 {x : PySem.Str} (h0 : 2 ≤ x.length) (h1 : x.length ≤ 36) (h : isWb x = true) (h' : plF x = 0) : decide (wlF x = 0) = isSoundb x := by
  unfold isSoundb; rw [decide_eq_true h0, decide_eq_true h1, h, decide_eq_true h']; simp
/-- two guard signs -/
def dbl2 (x : PySem.Str) : Int := (Int.fmod (x.length : Int) 36 + 1) * plF x - wlF x
def dbl1 (x : PySem.Str) : Int := -plF x - dbl2 x
def dblS (x : PySem.Str) : PySem.Str := x ++ signS (dbl1 x) ++ signS (dbl2 x)
theorem codes_dblS (x : PySem.Str) : codes (dblS x) = codes x ++ [sgn (Int.fmod (dbl1 x) 37), sgn (Int.fmod (dbl2 x) 37)] := by
  unfold dblS
  rw [codes_app, codes_app, codes_signS, codes_signS, List.append_assoc]; rfl
theorem len_dblS (x : PySem.Str) : (dblS x).length = x.length + 2 := by
  rw [← codes_len, codes_dblS, List.length_append, codes_len]; rfl
theorem dblS_out {x y z : PySem.Str} {a b : Int} (ha : a = dbl1 x) (hb : b = dbl2 x) (e : codes y = codes x ++ codes (signS a)) (e' : codes z = codes y ++ codes (signS b)) : z = dblS x := by
  apply codes_inj
  rw [e', e, ha, hb, codes_dblS, codes_signS, codes_signS, List.append_assoc]; rfl
theorem isW_dblS {x : PySem.Str} (h : IsW x) : IsW (dblS x) := ⟨fun c hc => by
  rw [codes_dblS] at hc
  rcases List.mem_append.mp hc with hc | hc
  · exact h.all c hc
  · simp only [List.mem_cons, List.not_mem_nil, or_false] at hc
    rcases hc with rfl | rfl
    · exact sgn_in (fm_lo _) (fm_hi _)
    · exact sgn_in (fm_lo _) (fm_hi _)⟩
end G
end
section
open PySem PySem.W PyProof.Rows PySem.Calls PySem.Spec
set_option Elab.async false
set_option maxHeartbeats 4000000
namespace G
open PySem.W.KStt (codes)
theorem dbl_ok {x : PySem.Str} (hn : x.length ≤ 34) : plF (dblS x) = 0 ∧ wlF (dblS x) = 0 := by
  have hl : ((codes x).map num).length = x.length := by rw [List.length_map, codes_len]
  have t := two_guards (l := (codes x).map num) (by omega)
  have e0 : Int.fmod (x.length : Int) 36 + 1 = (x.length : Int) + 1 := by rw [fmod36, wt_small (by omega)]
  have hp : plF x = ((codes x).map num).sum % 37 := plF_eq x
  have hw : wlF x = W 0 ((codes x).map num) % 37 := wlF_eq x
  have m := mul_mod ((x.length : Int) + 1) ((codes x).map num).sum
  have e2 : Int.fmod (dbl2 x) 37 = ((((codes x).map num).length : Int) + 1) * ((codes x).map num).sum % 37 - 0 ∨ True := .inr trivial
  have q2 : Int.fmod (dbl2 x) 37 = (((((codes x).map num).length : Int) + 1) * ((codes x).map num).sum - W 0 ((codes x).map num)) % 37 := by
    rw [fm, hl]
    unfold dbl2
    rw [e0, hp, hw]
    omega
  have q1 : Int.fmod (dbl1 x) 37 = (0 - ((codes x).map num).sum - ((((codes x).map num).length : Int) + 1) * ((codes x).map num).sum + W 0 ((codes x).map num)) % 37 := by
    rw [fm, hl]
    unfold dbl1 dbl2
    rw [e0, hp, hw]
    omega
  rw [plF_eq, wlF_eq]
  unfold pl wl
  rw [codes_dblS, List.map_append]
  simp only [List.map_cons, List.map_nil, num_sgn (fm_lo _) (fm_hi _)]
  rw [q1, q2]
  exact t
theorem dbl_sound {x : PySem.Str} (h : IsW x) (hn : x.length ≤ 34) : isSoundb (dblS x) = true := by
  have o := dbl_ok hn
  unfold isSoundb
  rw [decide_eq_true (show 2 ≤ (dblS x).length by rw [len_dblS]; omega), decide_eq_true (show (dblS x).length ≤ 36 by rw [len_dblS]; omega), isWb_yes (isW_dblS h), decide_eq_true o.1, decide_eq_true o.2]
  rfl
end G
end
section
open PySem PySem.W PyProof.Rows PySem.Calls PySem.Spec
set_option Elab.async false
set_option maxHeartbeats 4000000
namespace G
open PySem.W.KStt (codes)
theorem fold_mem {a : Array Nat} {c : Nat} : ∀ (k : Nat) (acc : Array Nat), c ∈ ((List.replicate k a).foldl (· ++ ·) acc).toList → c ∈ acc.toList ∨ c ∈ a.toList
  | 0, acc, h => .inl h
  | k + 1, acc, h => by
    rw [List.replicate_succ, List.foldl_cons] at h
    rcases fold_mem k (acc ++ a) h with h | h
    · rw [Array.toList_append] at h
      exact List.mem_append.mp h
    · exact .inr h
theorem isW_mul {x : PySem.Str} (h : IsW x) (n : Int) : IsW (PySem.Txt.mul x n) := ⟨fun c hc => by
  obtain ⟨d, hd, rfl⟩ := List.mem_map.mp hc
  unfold PySem.Txt.mul at hd
  split at hd
  · exact nomatch hd
  · split at hd
    · exact h.all _ (List.mem_map.mpr ⟨d, hd, rfl⟩)
    · rcases fold_mem _ _ hd with q | q
      · exact nomatch q
      · exact h.all _ (List.mem_map.mpr ⟨d, q, rfl⟩)⟩
theorem isW_of_codes {x : PySem.Str} (h : ∀ c ∈ codes x, c ∈ sgl) : IsW x := ⟨h⟩
theorem isW_0 : IsW (PySem.Str.ofString "0") := ⟨by decide +kernel⟩
theorem isW_0z : IsW (PySem.Str.ofString "0z-") := ⟨by decide +kernel⟩
theorem isW_take {x z : PySem.Str} {k : Nat} (h : IsW x) (e : codes z = (codes x).take k) : IsW z := ⟨fun c hc => by rw [e] at hc; exact h.all c (List.mem_of_mem_take hc)⟩
theorem isW_drop {x z : PySem.Str} {k : Nat} (h : IsW x) (e : codes z = (codes x).drop k) : IsW z := ⟨fun c hc => by rw [e] at hc; exact h.all c (List.mem_of_mem_drop hc)⟩
theorem sgl_turn {x : PySem.Str} {pre post : List Int} {c : Nat} (h : IsW x) (e : codes x = pre ++ (c : Int) :: post) : (c : Int) ∈ sgl := h.all _ (by rw [e]; simp)
theorem sgl_at {x : PySem.Str} {i c : Nat} (h : IsW x) (e : (codes x)[i]? = some (c : Int)) : (c : Int) ∈ sgl := h.all _ (List.mem_of_getElem? e)
theorem codes_back (x : PySem.Str) {k : Int} (h : k < 0) : codes (PySem.Txt.slice x (some k) none) = (codes x).drop (x.length - (-k).toNat) := by
  rw [codes_slice, hi_none, show lo (some k) x.length = x.length - (-k).toNat from hi_neg h]
  rw [List.take_of_length_le (by rw [List.length_drop, codes_len]; omega)]
section
variable {prog : Program} {w : World} {A : Around} {E : Value → Shared → Prop} {s : Shared} {h₀ : Heap} {L : Addr} {m : PySem.Str → Option Value} {news : List (Addr × Obj)} {value slice : PySem.Expr} {x y : PySem.Str} {t u : Tok} {Q : Value → Shared → Prop} {c : Nat}
theorem step_mul {n : Nat} {i : Int} (hk : x.length = n) (hx : n ≤ 16) (hlo : -(2 ^ 63 : Int) ≤ i) (hhi : i ≤ ((1048576 : Nat) : Int)) (hw : IsW x)
    (hb : i ≤ 20) (h : ∀ (z : PySem.Str) t' k, IsW z → z.length ≤ n * 20 → Q (.str z t') { s with toks := k }) :
    wpAny (model prog w) A (binaryOp .Mult (.str x t) (.int i u)) Q E s :=
  KXi.mul hk hx hlo hhi fun t' k a b => h _ t' k (isW_mul hw i) (by
    by_cases q : i < 0
    · rw [a q]; omega
    · have e := b (by omega)
      have m : (n : Int) * i ≤ (n : Int) * 20 := Int.mul_le_mul_of_nonneg_left hb (Int.natCast_nonneg n)
      omega)
theorem step_fromback {j : Int} {uj : Tok} (F : Fr h₀ L s.heap m) (N : News h₀ L s.heap news) (hz : x.length ≤ 16777216) (h0 : j < 0)
    (h : ∀ (z : PySem.Str) h' t' k, codes z = (codes x).drop (x.length - (-j).toNat) → z.length = x.length - (x.length - (-j).toNat) → Fr h₀ L h' m → News h₀ L h' news → Q (.str z t') { s with heap := h', toks := k })
    (hs : subscripted slice false (.str x t) (.ref s.heap.objs.size) = operate [.ref s.heap.objs.size, .str x t] (getItem (.str x t) (.ref s.heap.objs.size)))
    (ht : ∀ r, letTemporaryGo value (.str x t) r = pure ()) :
    wpAny (model prog w) A (subscriptTail value slice (.str x t) (.ref s.heap.objs.size)) Q E { s with heap := s.heap.push { cls := .type "slice", data := .fields #[.int j uj, .none, .none] } } :=
  PyProof.Rows.slice_strN_sn F N (fun h' t' k F' N' => h _ h' t' k (codes_back x h0) (by rw [← codes_len, codes_back x h0, List.length_drop, codes_len]) F' N') hs ht (by rw [sizeLine_eq]; exact hz)
theorem step_in_yes (hc : (c : Int) ∈ sgl) (h : Q (.bool true) s) : wpAny (model prog w) A (compareOp .In (.str ⟨#[c]⟩ u) (.str sg t)) Q E s :=
  step_in (by rw [decide_eq_true hc]; exact h)
theorem step_notin_no (hc : (c : Int) ∈ sgl) (h : Q (.bool false) s) : wpAny (model prog w) A (compareOp .NotIn (.str ⟨#[c]⟩ u) (.str sg t)) Q E s :=
  step_notin (by rw [decide_eq_true hc]; exact h)
end
/-! law k04: what is due -/
structure DueW (d₀ : Bool) (pre : List Int) (d : Bool) : Prop where
  eq : d = (d₀ && pre.all fun c => decide (c ∈ sgl))
theorem due0 {d : Bool} : DueW d [] d := ⟨by simp⟩
theorem due_no {d₀ d : Bool} {pre : List Int} {c : Nat} (_h : DueW d₀ pre d) (hc : ¬ (c : Int) ∈ sgl) : DueW d₀ (pre ++ [(c : Int)]) false := ⟨by
  rw [List.all_append]; simp [hc]⟩
theorem due_yes {d₀ d : Bool} {pre : List Int} {c : Nat} (h : DueW d₀ pre d) (hc : (c : Int) ∈ sgl) : DueW d₀ (pre ++ [(c : Int)]) d := ⟨by
  rw [List.all_append, h.eq]; simp [hc]⟩
theorem due_isW {x : PySem.Str} {d₀ : Bool} (h : DueW d₀ (codes x) true) : IsW x := by
  have e := h.eq.symm
  rw [Bool.and_eq_true] at e
  exact isW_of_b e.2
theorem good_due {x : PySem.Str} {p w hv : Int} (h : DueW (!decide (codes x = codes (PySem.Str.ofString ""))) (codes x) true) (l : LD (codes x) p w hv) : isGoodb x = decide (Int.fmod w 37 = 0) := by
  have e := h.eq.symm
  rw [Bool.and_eq_true, codes_nil] at e
  unfold isGoodb
  rw [e.1, show isWb x = true from e.2, wlF_eq, fm, l.w]
  rfl
theorem good_undue {x : PySem.Str} (h : DueW (!decide (codes x = codes (PySem.Str.ofString ""))) (codes x) false) : isGoodb x = false := by
  have e := h.eq
  rw [codes_nil] at e
  unfold isGoodb
  have q : (!decide (codes x = []) && isWb x) = false := e.symm
  rw [q]; rfl
end G
end
section
open PySem PySem.W PyProof.Rows PySem.Calls PySem.Spec
set_option Elab.async false
set_option maxHeartbeats 4000000
namespace G
open PySem.W.KStt (codes)
/-! mending -/
def mw (x : PySem.Str) : Int := Int.fmod (wlF x * turn (plF x)) 37
def mp (x : PySem.Str) : Nat := (mw x - 1).toNat
def mendS (x : PySem.Str) : PySem.Str := if isSoundb x = true then x else ⟨(x.cps.toList.take (mp x) ++ [(sgn (Int.fmod (num ((codes x).getD (mp x) 0) - plF x) 37)).toNat] ++ x.cps.toList.drop (mp x + 1)).toArray⟩
theorem codes_mk (l : List Nat) : codes ⟨l.toArray⟩ = l.map (fun (c : Nat) => ((c : Nat) : Int)) := rfl
theorem mend_same {x : PySem.Str} (h : isSoundb x = true) : mendS x = x := by unfold mendS; rw [if_pos h]
theorem codes_mendS {x : PySem.Str} (h : isSoundb x = false) : codes (mendS x) = (codes x).take (mp x) ++ sgn (Int.fmod (num ((codes x).getD (mp x) 0) - plF x) 37) :: (codes x).drop (mp x + 1) := by
  unfold mendS
  rw [if_neg (by rw [h]; decide), codes_mk, List.map_append, List.map_append, List.map_take, List.map_drop]
  simp only [List.map_cons, List.map_nil, Int.toNat_of_nonneg (sgn_nn _ (sgn_in (fm_lo _) (fm_hi _))), List.append_assoc, List.singleton_append]
  rfl
theorem mend_out1 {x : PySem.Str} (h : isSoundb x = true) : x = mendS x := (mend_same h).symm
theorem mend_out2 {x a b y z : PySem.Str} {c : Nat} {j k v : Int} (h : isSoundb x = false) (hj : j = mw x - 1) (hk : k = mw x) (h0 : 0 < mw x) (ha : codes a = (codes x).take j.toNat) (hc : (codes x)[j.toNat]? = some (c : Int)) (hv : v = num c - plF x)
    (e : codes y = codes a ++ codes (signS v)) (hb : codes b = (codes x).drop k.toNat) (e' : codes z = codes y ++ codes b) : z = mendS x := by
  apply codes_inj
  rw [codes_mendS h, e', e, ha, hb, codes_signS, hv, hj, hk]
  have e1 : (mw x - 1).toNat = mp x := rfl
  have e2 : (mw x).toNat = mp x + 1 := by unfold mp; omega
  rw [hj, e1] at hc
  rw [e1, e2, List.getD_eq_getElem?_getD, hc, List.append_assoc]
  rfl
theorem soundb_of {x : PySem.Str} (h : isSoundb x = true) : 2 ≤ x.length ∧ x.length ≤ 36 ∧ IsW x ∧ pl x % 37 = 0 ∧ wl x % 37 = 0 := by
  unfold isSoundb at h
  simp only [Bool.and_eq_true, decide_eq_true_eq] at h
  obtain ⟨⟨⟨⟨a, b⟩, c⟩, d⟩, e⟩ := h
  exact ⟨a, b, isW_of_b c, by rw [← plF_eq]; exact d, by rw [← wlF_eq]; exact e⟩
theorem not_sound_of {x : PySem.Str} (h : plF x ≠ 0) : isSoundb x = false := (sound3 h).symm
/-- one wrong sign: it is not sound, its place is known, and it is mended -/
theorem mend_one {x y : PySem.Str} {a b : List Int} {c d : Int} (hy : codes y = a ++ d :: b) (hx : codes x = a ++ c :: b) (Wx : IsW x) (hs : isSoundb y = true) (hne : c ≠ d) :
    isSoundb x = false ∧ mw x = (a.length : Int) + 1 ∧ mendS x = y := by
  obtain ⟨_, h36, Wy, p0, w0⟩ := soundb_of hs
  have hc : c ∈ sgl := Wx.all c (by rw [hx]; simp)
  have hd : d ∈ sgl := Wy.all d (by rw [hy]; simp)
  have c0 := num_lo hc
  have c1 := num_hi hc
  have d0 := num_lo hd
  have d1 := num_hi hd
  have hn : num c ≠ num d := fun e => hne (num_inj hc hd e)
  have hlen : a.length < 36 := by
    have e := codes_len y
    rw [hy, List.length_append, List.length_cons] at e
    omega
  have hk : wt a.length = (a.length : Int) + 1 := wt_small hlen
  have ep : pl x = pl y + (num c - num d) := by
    unfold pl
    rw [hx, hy, List.map_append, List.map_append, List.map_cons, List.map_cons]
    exact sum_repl _ _ _ _
  have ew : wl x = wl y + wt a.length * (num c - num d) := by
    unfold wl
    rw [hx, hy, List.map_append, List.map_append, List.map_cons, List.map_cons, W_repl 0 _ _ (num d) (num c), List.length_map, Nat.zero_add]
  have p1 : plF x = (num c - num d) % 37 := by rw [plF_eq, ep]; omega
  have q1 : wlF x = (wt a.length * (num c - num d)) % 37 := by rw [wlF_eq, ew]; omega
  have pn : plF x % 37 ≠ 0 := by rw [p1]; omega
  have hm : mw x = (a.length : Int) + 1 := by
    unfold mw
    rw [fm, ← hk]
    refine ((place pn ?_ ?_).mp ?_).symm
    · rw [hk]; omega
    · rw [hk]; omega
    · rw [q1, p1]
      have m := mul_mod (wt a.length) (num c - num d)
      omega
  have hf : isSoundb x = false := not_sound_of (by omega)
  refine ⟨hf, hm, codes_inj ?_⟩
  have hp : mp x = a.length := by unfold mp; omega
  rw [codes_mendS hf, hp, hx, hy, List.take_left' rfl, List.getD_eq_getElem?_getD, List.getElem?_append_right (Nat.le_refl _), Nat.sub_self]
  have ed : (a ++ c :: b).drop (a.length + 1) = b := by
    rw [← List.drop_drop, List.drop_left' rfl]; rfl
  rw [ed]
  have es : sgn (Int.fmod (num c - plF x) 37) = d := by
    rw [fm, p1, show (num c - (num c - num d) % 37) % 37 = num d by omega, sgn_num hd]
  show a ++ sgn (Int.fmod (num c - plF x) 37) :: b = _
  rw [es]
end G
end
section
open PySem PySem.W PyProof.Rows PySem.Calls PySem.Spec
set_option Elab.async false
set_option maxHeartbeats 4000000
namespace G
open PySem.W.KStt (codes)
/-- a word whose size is bounded: what the loads ask -/
structure WOk (x : PySem.Str) : Prop where
  w : isWb x = true
  n : x.length ≤ 1000
theorem WOk.big {x : PySem.Str} (h : WOk x) : x.length ≤ 16777216 := by have := h.n; omega
theorem sgl_w {x : PySem.Str} {c : Nat} (hc : (c : Int) ∈ codes x) (h : WOk x) : (c : Int) ∈ sgl := (isW_of_b h.w).all _ hc
theorem sgl_is {x : PySem.Str} {c : Nat} (hc : (c : Int) ∈ codes x) (h : IsW x) : (c : Int) ∈ sgl := h.all _ hc
theorem sgl_turn' {x : PySem.Str} {pre post : List Int} {c : Nat} (e : codes x = pre ++ (c : Int) :: post) (h : IsW x) : (c : Int) ∈ sgl := sgl_turn h e
theorem sgl_at' {x : PySem.Str} {i c : Nat} (e : (codes x)[i]? = some (c : Int)) (h : IsW x) : (c : Int) ∈ sgl := sgl_at h e
theorem sgl_atB {x : PySem.Str} {i c : Nat} (e : (codes x)[i]? = some (c : Int)) (h : isWb x = true) : (c : Int) ∈ sgl := sgl_at (isW_of_b h) e
structure WbF (x : PySem.Str) : Prop where
  yes : IsW x → isWb x = true
  no : HasOdd x → isWb x = false
theorem wbF (x : PySem.Str) : WbF x := ⟨isWb_yes, isWb_no⟩
theorem call_with1 {M : Model} {A : Around} {E : Value → Shared → Prop} {s : Shared} {f : Addr} {x : PySem.Str} {t : Tok} {Q : Value → Shared → Prop} (P : PySem.Str → Prop) (p : P x) (h : P x → wpAny M A (PySem.call (.ref f) [.str x t]) Q E s) : wpAny M A (PySem.call (.ref f) [.str x t]) Q E s := h p
theorem ldS0 : (0 : Int) ≤ 0 ∧ (0 : Int) ≤ 36 ∧ LD [] 0 0 0 := ⟨by decide, by decide, ld0⟩
theorem ldS1 {pre : List Int} {p w h : Int} {c : Nat} (d : LD pre p w h) (e : h + 1 = 37) : (0 : Int) ≤ 1 ∧ (1 : Int) ≤ 36 ∧ LD (pre ++ [(c : Int)]) (p + num c) (w + 1 * num c) 1 := ⟨by decide, by decide, ld_round d e⟩
theorem ldS2 {pre : List Int} {p w h : Int} {c : Nat} (d : LD pre p w h) (h0 : 0 ≤ h) (h1 : h ≤ 36) (e : ¬ h + 1 = 37) : (0 : Int) ≤ h + 1 ∧ h + 1 ≤ 36 ∧ LD (pre ++ [(c : Int)]) (p + num c) (w + (h + 1) * num c) (h + 1) := ⟨by omega, by omega, ld_on d e⟩
/-- law k04: the word of the last sign's loop -/
theorem l4a {line : PySem.Str} (h : IsW line) (h1 : line.length ≤ 63) (h2 : 1 ≤ line.length) : 1 ≤ line.length ∧ line.length ≤ 63 ∧ IsW line := ⟨h2, h1, h⟩
theorem ne_len {z : PySem.Str} (h : ¬ codes z = codes (PySem.Str.ofString "")) : 1 ≤ z.length := by
  rw [codes_nil] at h
  have e := codes_len z
  cases q : codes z with
  | nil => exact absurd q h
  | cons a r => rw [q, List.length_cons] at e; omega
theorem l4s {z : PySem.Str} (h : ¬ codes z = codes (PySem.Str.ofString "")) (n : z.length ≤ 63) (w : IsW z) : 1 ≤ z.length ∧ z.length ≤ 63 ∧ IsW z := ⟨ne_len h, n, w⟩
theorem l4b {line y z : PySem.Str} {c : Nat} {k : Nat} (e : codes y = (codes line).take k) (e' : codes z = codes y ++ codes ⟨#[c]⟩) (hc : (c : Int) ∈ sgl) (h : IsW line) (h1 : z.length ≤ 63) (h2 : 1 ≤ z.length) : 1 ≤ z.length ∧ z.length ≤ 63 ∧ IsW z :=
  ⟨h2, h1, isW_of e' (isW_take h e) (isW_one hc)⟩
end G
end
section
open PySem PySem.W PyProof.Rows PySem.Calls PySem.Spec
set_option Elab.async false
set_option maxHeartbeats 4000000
namespace G
open PySem.W.KStt (codes)
/-! the gap -/
theorem same_map (c d : Nat) {l : List Nat} (h : c ∉ l) : l.map (fun k => if k = c then d else k) = l := by
  induction l with
  | nil => rfl
  | cons k r ih =>
    have h1 : ¬ k = c := fun e => h (e ▸ List.mem_cons_self ..)
    rw [List.map_cons, if_neg h1, ih fun m => h (List.mem_cons_of_mem _ m)]
theorem map_join (c d : Nat) : ∀ parts : List PySem.Str, (∀ p ∈ parts, c ∉ p.cps.toList) → (PySem.Str.join ⟨#[c]⟩ parts).cps.toList.map (fun k => if k = c then d else k) = (PySem.Str.join ⟨#[d]⟩ parts).cps.toList
  | [], _ => rfl
  | [p], h => same_map c d (h p (List.mem_singleton.mpr rfl))
  | p :: q :: r, h => by
    have ih := map_join c d (q :: r) fun a ha => h a (List.mem_cons_of_mem _ ha)
    show (p ++ ⟨#[c]⟩ ++ PySem.Str.join ⟨#[c]⟩ (q :: r)).cps.toList.map _ = (p ++ ⟨#[d]⟩ ++ PySem.Str.join ⟨#[d]⟩ (q :: r)).cps.toList
    simp only [PySem.Str.cps_append, Array.toList_append, List.map_append]
    rw [ih, same_map c d (h p (List.mem_cons_self ..))]
    simp
theorem replace_map (x : PySem.Str) (c d : Nat) : (Txt.replace x ⟨#[c]⟩ ⟨#[d]⟩).cps.toList = x.cps.toList.map fun k => if k = c then d else k := by
  rw [StrLaws.replace_one, ← map_join c d _ (StrLaws.split_free x c), StrLaws.join_split]
theorem codes_replace (x : PySem.Str) (c d : Nat) : codes (Txt.replace x ⟨#[c]⟩ ⟨#[d]⟩) = (codes x).map fun k => if k = (c : Int) then (d : Int) else k := by
  unfold PySem.W.KStt.codes
  rw [replace_map, List.map_map, List.map_map]
  refine List.map_congr_left fun k _ => ?_
  show (((if k = c then d else k : Nat)) : Int) = if (k : Int) = (c : Int) then (d : Int) else (k : Int)
  by_cases h : k = c
  · rw [if_pos h, if_pos (by omega)]
  · rw [if_neg h, if_neg (by omega)]
/-- a text with its one gap behind a -/
structure Gap (x : PySem.Str) (a b : List Int) : Prop where
  eq : codes x = a ++ 46 :: b
  wa : ∀ c ∈ a, c ∈ sgl
  wb : ∀ c ∈ b, c ∈ sgl
theorem no46 : ¬ (46 : Int) ∈ sgl := by decide +kernel
theorem split46 {x : PySem.Str} {a b : List Int} (h : codes x = a ++ 46 :: b) : ∃ a' b' : List Nat, x.cps.toList = a' ++ 46 :: b' ∧ a'.map (fun (n : Nat) => (n : Int)) = a ∧ b'.map (fun (n : Nat) => (n : Int)) = b := by
  unfold PySem.W.KStt.codes at h
  obtain ⟨a', r, e, ea, er⟩ := List.map_eq_append_iff.mp h
  obtain ⟨k, b', e2, ek, eb⟩ := List.map_eq_cons_iff.mp er
  have hk : k = 46 := by omega
  exact ⟨a', b', by rw [e, e2, hk], ea, eb⟩
theorem cast_in {l : List Nat} {k : Nat} (h : k ∈ l) : (k : Int) ∈ l.map fun (n : Nat) => (n : Int) := List.mem_map.mpr ⟨k, h, rfl⟩
theorem gap_count {x : PySem.Str} {a b : List Int} (g : Gap x a b) : Txt.count x ⟨#[46]⟩ = 1 := by
  obtain ⟨a', b', e, ea, eb⟩ := split46 g.eq
  have na : 46 ∉ a' := fun h => no46 (g.wa _ (ea ▸ cast_in h))
  have nb : 46 ∉ b' := fun h => no46 (g.wb _ (eb ▸ cast_in h))
  rw [count_cnt, e, cnt_append, cnt_cons, cnt_none 46 a' na, cnt_none 46 b' nb, if_pos rfl]
  rfl
theorem cnt_codes (x : PySem.Str) (h : ∀ c ∈ codes x, c ∈ sgl) : Txt.count x ⟨#[46]⟩ = 0 := by
  rw [count_cnt, cnt_none 46 _ fun m => no46 (h _ (cast_in m))]
theorem cnt_two {x y : PySem.Str} {a b : List Int} (g : Gap x a b) (e : codes y = codes x ++ [46]) : Txt.count y ⟨#[46]⟩ = 2 := by
  have g' : codes y = a ++ 46 :: (b ++ [46]) := by rw [e, g.eq]; simp
  obtain ⟨a', b', e1, ea, eb⟩ := split46 g'
  obtain ⟨b1, r, e3, eb1, er⟩ := List.map_eq_append_iff.mp eb
  obtain ⟨k, r', e4, ek, er'⟩ := List.map_eq_cons_iff.mp er
  have hk : k = 46 := by omega
  have hr : r' = [] := List.map_eq_nil_iff.mp er'
  have na : 46 ∉ a' := fun h => no46 (g.wa _ (ea ▸ cast_in h))
  have nb : 46 ∉ b1 := fun h => no46 (g.wb _ (eb1 ▸ cast_in h))
  rw [count_cnt, e1, cnt_append, cnt_cons, e3, cnt_append, e4, hk, hr, cnt_none 46 a' na, cnt_none 46 b1 nb, if_pos rfl]
  decide
theorem gap_find {x : PySem.Str} {a b : List Int} (g : Gap x a b) : Txt.find x ⟨#[46]⟩ = (a.length : Int) ∧ (PySem.Builtin.Str.occurrences x ⟨#[46]⟩ 0 x.length 1).isEmpty = false := by
  obtain ⟨a', b', e, ea, eb⟩ := split46 g.eq
  have na : 46 ∉ a' := fun h => no46 (g.wa _ (ea ▸ cast_in h))
  have la : a'.length = a.length := by rw [← ea, List.length_map]
  have hat : ∀ i, StrLaws.At x ⟨#[46]⟩ x.length i ↔ x.cps.toList[i]? = some 46 := fun i => StrLaws.subAt_one x 46 i
  rcases StrLaws.occ_head x ⟨#[46]⟩ 1 (Nat.le_refl 1) with ⟨_, hn⟩ | ⟨i, r, eo, hi, hmin⟩
  · refine absurd ((hat a'.length).mpr ?_) (hn _)
    rw [e, List.getElem?_append_right (Nat.le_refl _), Nat.sub_self]; rfl
  · have h1 := (hat i).mp hi
    have : i = a'.length := by
      rcases Nat.lt_trichotomy i a'.length with q | q | q
      · rw [e, List.getElem?_append_left q] at h1
        exact absurd (List.mem_of_getElem? h1) na
      · exact q
      · refine absurd ((hat a'.length).mpr ?_) (hmin _ q)
        rw [e, List.getElem?_append_right (Nat.le_refl _), Nat.sub_self]; rfl
    refine ⟨?_, by rw [eo]; rfl⟩
    unfold Txt.find
    rw [eo]
    show (i : Int) = _
    omega
/-- the gap filled -/
theorem gap_map {x : PySem.Str} {a b : List Int} {d : Int} (g : Gap x a b) : (codes x).map (fun k => if k = 46 then d else k) = a ++ d :: b := by
  have same : ∀ l : List Int, (∀ c ∈ l, c ∈ sgl) → l.map (fun k => if k = 46 then d else k) = l := by
    intro l
    induction l with
    | nil => intro _; rfl
    | cons k r ih =>
      intro h
      have hk : ¬ k = 46 := fun e => no46 (e ▸ h k (List.mem_cons_self ..))
      rw [List.map_cons, if_neg hk, ih fun c hc => h c (List.mem_cons_of_mem _ hc)]
  rw [g.eq, List.map_append, List.map_cons, if_pos rfl, same a g.wa, same b g.wb]

theorem dot_eq : PySem.Str.ofString "." = ⟨#[46]⟩ := by decide +kernel
section
variable {prog : Program} {w : World} {A : Around} {E : Value → Shared → Prop} {s : Shared} {x : PySem.Str} {t u v : Tok} {Q : Value → Shared → Prop} {c : Nat} {a b : List Int}
theorem step_count1 (g : Gap x a b) (h : Q (.int 1 s.toks) { s with toks := s.toks + 1 }) : wpAny (model prog w) A (PySem.call (.builtin "str.count") [.str x t, .str (PySem.Str.ofString ".") u]) Q E s :=
  SC.count (by rw [dot_eq, gap_count g]; exact h)
theorem step_count0 (g : IsW x) (h : Q (.int 0 s.toks) { s with toks := s.toks + 1 }) : wpAny (model prog w) A (PySem.call (.builtin "str.count") [.str x t, .str (PySem.Str.ofString ".") u]) Q E s :=
  SC.count (by rw [dot_eq, cnt_codes x g.all]; exact h)
theorem step_count2 {y : PySem.Str} (g : Gap y a b) (e : codes x = codes y ++ codes (PySem.Str.ofString ".")) (h : Q (.int 2 s.toks) { s with toks := s.toks + 1 }) : wpAny (model prog w) A (PySem.call (.builtin "str.count") [.str x t, .str (PySem.Str.ofString ".") u]) Q E s :=
  SC.count (by rw [dot_eq, cnt_two g (by rw [e, dot_eq]; rfl)]; exact h)
theorem step_gapindex (hA : A.handled = none) (g : Gap x a b) (h : Q (.int (a.length : Int) s.toks) { s with toks := s.toks + 1 }) :
    wpAny (model prog w) A (PySem.call (.builtin "str.index") [.str x t, .str (PySem.Str.ofString ".") u]) Q E s := by
  obtain ⟨e, o⟩ := gap_find g
  rw [dot_eq]
  refine index_or hA (fun _ z => absurd z (by rw [o]; decide)) fun _ _ => ?_
  rw [e]
  exact h
theorem step_gap (hc : (c : Int) ∈ sgl) (hu : u ≠ 0) (hv : v ≠ 0) (huv : u ≠ v) (hx : x.length ≤ 1000)
    (h : ∀ (z : PySem.Str) t' k, codes z = (codes x).map (fun d => if d = 46 then (c : Int) else d) → z.length = x.length → Q (.str z t') { s with toks := k }) :
    wpAny (model prog w) A (PySem.call (.builtin "str.replace") [.str x t, .str (PySem.Str.ofString ".") u, .str ⟨#[c]⟩ v]) Q E s := by
  rw [dot_eq]
  refine SC.replaceW hu hv huv ?_ (by omega) (show (⟨#[c]⟩ : PySem.Str).length ≤ 14 by show 1 ≤ 14; decide) fun t' k => h _ t' k (codes_replace x 46 c) (by rw [← codes_len, codes_replace, List.length_map, codes_len])
  refine beq_eq_false_iff_ne.mpr fun e => ?_
  have e2 : codes ⟨#[46]⟩ = codes ⟨#[c]⟩ := by rw [e]
  rw [codes_one, codes_one] at e2
  injection e2 with e3 _
  have e4 : (c : Int) = 46 := by omega
  exact no46 (e4 ▸ hc)
end
theorem fill_ok {rest z : PySem.Str} {a b : List Int} (wa : ∀ c ∈ a, c ∈ sgl) (wb : ∀ c ∈ b, c ∈ sgl) (er : codes rest = a ++ 48 :: b) (ez : codes z = a ++ sgn (Int.fmod (-wlF rest * turn (Int.fmod (a.length : Int) 36 + 1)) 37) :: b) : wlF z = 0 ∧ IsW z := by
  have n0 : num 48 = 0 := by decide +kernel
  refine ⟨?_, ⟨fun c hc => ?_⟩⟩
  · rw [wlF_eq]
    unfold wl
    rw [ez, List.map_append, List.map_cons, num_sgn (fm_lo _) (fm_hi _), fmod36]
    rw [W_repl 0 (a.map num) (b.map num) 0 _, List.length_map, Nat.zero_add]
    have hr : wlF rest = W 0 (a.map num ++ 0 :: b.map num) % 37 := by
      rw [wlF_eq]
      unfold wl
      rw [er, List.map_append, List.map_cons, n0]
    have s := solve (r := wlF rest) (w := wt a.length) (wt_ne _)
    rw [fm, show -wlF rest * turn (wt a.length) = 0 - wlF rest * turn (wt a.length) by rw [Int.neg_mul]; omega, Int.sub_zero]
    omega
  · rw [ez] at hc
    rcases List.mem_append.mp hc with hc | hc
    · exact wa c hc
    · rcases List.mem_cons.mp hc with rfl | hc
      · exact sgn_in (fm_lo _) (fm_hi _)
      · exact wb c hc
end G
end
section
open PySem PySem.W PyProof.Rows PySem.Calls PySem.Spec
set_option Elab.async false
set_option maxHeartbeats 4000000
namespace G
open PySem.W.KStt (codes)
structure DblOk (x : PySem.Str) : Prop where
  w : IsW x
  n : x.length ≤ 34
theorem wok_dbl {x : PySem.Str} (h : DblOk x) : WOk x := ⟨isWb_yes h.w, by have := h.n; omega⟩
theorem wok_is {x : PySem.Str} (h : IsW x) (n : x.length ≤ 1000) : WOk x := ⟨isWb_yes h, n⟩
theorem dblS_out' {x y z : PySem.Str} {a b : Int} (e' : codes z = codes y ++ codes (signS b)) (e : codes y = codes x ++ codes (signS a)) (ha : a = dbl1 x) (hb : b = dbl2 x) : z = dblS x := dblS_out ha hb e e'
theorem has_odd' {a z y b : PySem.Str} {c : Nat} (e' : codes y = codes z ++ codes b) (e : codes z = codes a ++ codes ⟨#[c]⟩) (hc : Odd c) : HasOdd y := has_odd e e' hc
theorem pick_odd' {z : PySem.Str} {c d : Nat} {i : Nat} (h : (codes z)[i]? = some (d : Int)) (e : codes z = codes (PySem.Str.ofString ".") ++ codes ⟨#[c]⟩) (hc : Odd c) : Odd d := pick_odd hc e h
structure SbF (x : PySem.Str) : Prop where
  yes : ∀ y, x = dblS y → DblOk y → isSoundb x = true
theorem sbF (x : PySem.Str) : SbF x := ⟨fun y e h => by rw [e]; exact dbl_sound h.w h.n⟩
theorem dbl_ld {x : PySem.Str} {p q h : Int} (l : LD (codes (dblS x)) p q h) (hn : x.length ≤ 34) : Int.fmod p 37 = 0 ∧ Int.fmod q 37 = 0 := by
  have o := dbl_ok hn
  rw [plF_eq, wlF_eq] at o
  rw [fm, fm, l.p, l.w]
  exact o
theorem dbl_front {x z : PySem.Str} (e : codes z = (codes (dblS x)).take ((dblS x).length - (-(-2 : Int)).toNat)) : codes z = codes x := by
  rw [e, len_dblS, codes_dblS, show x.length + 2 - (-(-2 : Int)).toNat = (codes x).length by rw [codes_len]; omega, List.take_left' rfl]
theorem isW_back {x z : PySem.Str} {k : Nat} (e : codes z = (codes x).drop k) (h : IsW x) : IsW z := isW_drop h e
section
variable {prog : Program} {w : World} {A : Around} {E : Value → Shared → Prop} {s : Shared} {x y : PySem.Str} {t u : Tok} {Q : Value → Shared → Prop}
theorem step_mod_is {p r : Int} (e : Int.fmod p 37 = r) (h : Q (.int r s.toks) { s with toks := s.toks + 1 }) : wpAny (model prog w) A (binaryOp .Mod (.int p t) (.int 37 u)) Q E s :=
  PyProof.Rows.mod_int (by decide) (by rw [e]; exact h)
end
end G
end
section
open PySem PySem.W PyProof.Rows PySem.Calls PySem.Spec
set_option Elab.async false
set_option maxHeartbeats 4000000
namespace G
open PySem.W.KStt (codes)
/-! ways that meet: one int name -/
structure JoinI (h₀ : Heap) (L : Addr) (m : PySem.Str → Option Value) (x : PySem.Str) (news : List (Addr × Obj)) (P : Int → Prop) (s : Shared) (f : Flow) (s' : Shared) : Prop where
  next : f = .next
  here : ∃ (h : Heap) (tk : Nat) (v : Int) (t : Tok), s' = { s with heap := h, toks := tk } ∧ Fr h₀ L h (fun z => if z = x then some (.int v t) else m z) ∧ News h₀ L h news ∧ P v
section
variable {M : Model} {A : Around} {E : Value → Shared → Prop} {s : Shared} {h₀ : Heap} {L : Addr} {m : PySem.Str → Option Value} {news : List (Addr × Obj)}
theorem JoinI.intro {x : PySem.Str} {P : Int → Prop} {h : Heap} {tk : Nat} {v : Int} {t : Tok} {all : List (Addr × Obj)} (F : Fr h₀ L h (fun z => if z = x then some (.int v t) else m z)) (N : News h₀ L h all) (sub : ∀ p ∈ news, p ∈ all) (p : P v) : JoinI h₀ L m x news P s .next { s with heap := h, toks := tk } :=
  ⟨rfl, h, tk, v, t, rfl, F, fun q hq => N q (sub q hq), p⟩
theorem join_int {t : Sem Flow} {Q : Flow → Shared → Prop} (x : PySem.Str) (P : Int → Prop) (_F : Fr h₀ L s.heap m) (_N : News h₀ L s.heap news)
    (h : wpAny M A t (JoinI h₀ L m x news P s) E s)
    (k : ∀ (h : Heap) (tk : Nat) (v : Int) (t : Tok), P v → Fr h₀ L h (fun z => if z = x then some (.int v t) else m z) → News h₀ L h news → Q .next { s with heap := h, toks := tk }) :
    wpAny M A t Q E s := by
  refine wpAny_mono h (fun f s' j => ?_) fun _ _ e => e
  obtain ⟨rfl, h', tk, v, tt, rfl, F, N, p⟩ := j
  exact k h' tk v tt p F N
end
theorem lens2 : (PySem.Str.ofString ".").length = 1 ∧ (PySem.Str.ofString "").length = 0 ∧ (PySem.Str.ofString "0").length = 1 ∧ (PySem.Str.ofString ". 0").length = 3 ∧ (PySem.Str.ofString "0z-").length = 3 ∧ sg.length = 37 := by decide +kernel
end G
end
section
open PySem PySem.W PyProof.Rows PySem.Calls PySem.Spec
set_option Elab.async false
set_option maxHeartbeats 4000000
namespace G
open PySem.W.KStt (codes)
theorem sgl_due {x : PySem.Str} {pre post : List Int} {c : Nat} {d₀ d : Bool} (e : codes x = pre ++ (c : Int) :: post) (h : DueW d₀ (codes x) d) (hd : d = true) : (c : Int) ∈ sgl := by
  subst hd
  exact sgl_turn (due_isW h) e
theorem good_dueB {x : PySem.Str} {p w hv : Int} {d : Bool} (h : DueW (!decide (codes x = codes (PySem.Str.ofString ""))) (codes x) d) (hd : d = true) (l : LD (codes x) p w hv) : isGoodb x = (Int.fmod w 37 == 0) := by
  subst hd
  rw [good_due h l]
  by_cases q : Int.fmod w 37 = 0
  · rw [decide_eq_true q, q]; rfl
  · rw [decide_eq_false q]; exact (beq_eq_false_iff_ne.mpr q).symm
theorem good_undueB {x : PySem.Str} {d : Bool} (h : DueW (!decide (codes x = codes (PySem.Str.ofString ""))) (codes x) d) (hd : d = false) : isGoodb x = d := by
  subst hd
  exact good_undue h
theorem isW_cut {y z a b : PySem.Str} {k : Nat} (e : codes z = (codes y).take k) (e' : codes y = codes a ++ codes b) (ha : IsW a) (hb : IsW b) : IsW z := isW_take (isW_of e' ha hb) e
theorem f2 {x : PySem.Str} {a d : Bool} (h : DueW (!decide (codes x = codes (PySem.Str.ofString ""))) (codes x) d) (hd : d = false) (he : ¬ codes x = codes (PySem.Str.ofString "")) (hw : isWb x = true) : a = d := by
  have e := h.eq
  rw [hd, decide_eq_false he, show ((codes x).all fun c => decide (c ∈ sgl)) = true from hw] at e
  exact absurd e (by decide)
theorem f3 {x : PySem.Str} {a b d : Bool} (h : DueW (!decide (codes x = codes (PySem.Str.ofString ""))) (codes x) d) (hd : d = true) (he : codes x = codes (PySem.Str.ofString "")) : a = b := by
  have e := h.eq
  rw [hd, decide_eq_true he] at e
  exact absurd e (by simp)
theorem f4 {x : PySem.Str} {a b d : Bool} (h : DueW (!decide (codes x = codes (PySem.Str.ofString ""))) (codes x) d) (hd : d = true) (hw : isWb x = false) : a = b := by
  have e := h.eq
  rw [hd, show ((codes x).all fun c => decide (c ∈ sgl)) = false from hw] at e
  exact absurd e (by simp)
theorem f5 {x : PySem.Str} {p w hv : Int} (l : LD (codes x) p w hv) : (wlF x == 0) = (Int.fmod w 37 == 0) := by
  rw [wlF_eq, fm, l.w]
  rfl
theorem due_isW' {x : PySem.Str} {d₀ d : Bool} (h : DueW d₀ (codes x) d) (hd : d = true) : IsW x := by subst hd; exact due_isW h
structure PlF (x : PySem.Str) : Prop where
  dbl : ∀ y, x = dblS y → y.length ≤ 34 → plF x = 0
theorem plFF (x : PySem.Str) : PlF x := ⟨fun y e h => by rw [e]; exact (dbl_ok h).1⟩
structure WlF (x : PySem.Str) : Prop where
  dbl : ∀ y, x = dblS y → y.length ≤ 34 → wlF x = 0
theorem wlFF (x : PySem.Str) : WlF x := ⟨fun y e h => by rw [e]; exact (dbl_ok h).2⟩
theorem len_rk {x n : Nat} {a : Int} (h : x ≤ (PySem.W.rangeKs a n).length) : x ≤ n := by rw [PySem.W.rangeKs_length] at h; exact h
section
variable {prog : Program} {w : World} {A : Around} {E : Value → Shared → Prop} {s : Shared} {Q : Value → Shared → Prop}
theorem step_eqb {a b : Bool} (e : a = b) (h : Q (.bool true) s) : wpAny (model prog w) A (compareOp .Eq (.bool a) (.bool b)) Q E s :=
  PyProof.Rows.eq_bool (by rw [e, beq_self_eq_true]; exact h)
end
end G
end
section
open PySem PySem.W PyProof.Rows PySem.Calls PySem.Spec
set_option Elab.async false
set_option maxHeartbeats 4000000
namespace G
open PySem.W.KStt (codes)
section
variable {prog : Program} {w : World} {A : Around} {E : Value → Shared → Prop} {s : Shared} {env : Env} {h₀ : Heap} {x : PySem.Str} {body : List Stmt} {Q : Flow → Shared → Prop}
/-- a loop over a range that stores nothing for a later turn, a short written one too -/
theorem range_search {r : Addr} {a₀ b₀ : Int} {t₀ u₀ v₀ : Tok} {n : Nat} {m₀ : PySem.Str → Option Value} {news : List (Addr × Obj)} (P : List Int → Prop) (stored : List PySem.Str)
    (hh : A.handled = none) (hr : IsRange s.heap r a₀ b₀ 1 t₀ u₀ v₀) (hsmall : Builtin.Range.small a₀ b₀ 1 = true) (hn : Builtin.Range.rangeSize a₀ b₀ 1 = (n : Int)) (F : Fr h₀ env.locals s.heap m₀) (N : News h₀ env.locals s.heap news) (hp : P [])
    (turn : ∀ (pre : List Int) (k : Int) t (u : PySem.Str → Option Value) h tk own, k = a₀ + (pre.length : Int) → pre.length < n → OwnOff own (news.map (·.1)) → P pre →
      Fr h₀ env.locals h (fun y => if y = x then some (.int k t) else kstB (fun z => if stored.contains z then u z else m₀ z) [] y) → News h₀ env.locals h (news ++ own) →
      wpAny (model prog w) A (execs body env) (InvPostN h₀ env.locals (KstS (fun _ : Unit => news) (fun _ => []) (fun _ => True) x stored m₀ (fun pre _ => P pre) (pre ++ [k])) own (news.map (·.1)) { s with heap := h, toks := tk } Q) E { s with heap := h, toks := tk })
    (done : ∀ (u : PySem.Str → Option Value) h tk, P (rangeKs a₀ n) → Fr h₀ env.locals h (fun y => if y = x then u y else kstB (fun z => if stored.contains z then u z else m₀ z) [] y) → News h₀ env.locals h news → Q .next { s with heap := h, toks := tk }) :
    wpAny (model prog w) A (pyIter (.ref r)) (fun it s₂ => LoopAtV prog w A h₀ env x body Q E it s₂) E s :=
  kst_range (fun _ : Unit => news) (fun _ => []) (fun _ => True) stored (fun pre _ => P pre) () hh hr hsmall hn F N True.intro (List.forall_mem_nil _) hp
    (fun _ pre k t u h tk own e l o _ p F' N' => turn pre k t u h tk own e l o p F' N') (fun _ u h tk _ p F' N' => done u h tk p F' N')
end
/-- z is x with another sign of the 37 in the place j -/
structure One (z x : PySem.Str) (j : Nat) : Prop where
  ex : ∃ (a b : List Int) (c d : Int), codes x = a ++ d :: b ∧ codes z = a ++ c :: b ∧ a.length = j ∧ c ≠ d
  w : IsW z
  len : z.length = x.length
theorem one_of {x a y b z : PySem.Str} {c c2 : Nat} {j k st : Int} (e2 : codes z = codes y ++ codes b) (e1 : codes y = codes a ++ codes ⟨#[c2]⟩) (ea : codes a = (codes x).take j.toNat) (eb : codes b = (codes x).drop k.toNat) (hc : (codes x)[j.toNat]? = some (c : Int))
    (hc2 : (c2 : Int) = sgn (Int.fmod (num c + st) 37)) (wx : IsW x) (hk : k = j + 1) (h0 : 0 ≤ j) (h1 : 1 ≤ st) (h36 : st ≤ 36) : One z x j.toNat := by
  have hlt : j.toNat < (codes x).length := (List.getElem?_eq_some_iff.mp hc).1
  have hx : codes x = (codes x).take j.toNat ++ (c : Int) :: (codes x).drop (j.toNat + 1) := by
    have e := List.take_append_drop j.toNat (codes x)
    rw [List.drop_eq_getElem_cons hlt, (List.getElem?_eq_some_iff.mp hc).2] at e
    exact e.symm
  have ek : k.toNat = j.toNat + 1 := by omega
  have hz : codes z = (codes x).take j.toNat ++ (c2 : Int) :: (codes x).drop (j.toNat + 1) := by
    rw [e2, e1, ea, eb, ek, codes_one, List.append_assoc]; rfl
  have hcs : (c : Int) ∈ sgl := wx.all _ (List.mem_of_getElem? hc)
  have hc2s : (c2 : Int) ∈ sgl := by rw [hc2]; exact sgn_in (fm_lo _) (fm_hi _)
  have n0 := num_lo hcs
  have n1 := num_hi hcs
  have hne : (c2 : Int) ≠ (c : Int) := by
    intro e
    have q : num c2 = num c := by rw [e]
    rw [hc2, num_sgn (fm_lo _) (fm_hi _), fm] at q
    omega
  refine ⟨⟨_, _, _, _, hx, hz, by rw [List.length_take]; omega, hne⟩, ⟨fun d hd => ?_⟩, ?_⟩
  · rw [hz] at hd
    rcases List.mem_append.mp hd with hd | hd
    · exact wx.all d (List.mem_of_mem_take hd)
    · rcases List.mem_cons.mp hd with rfl | hd
      · exact hc2s
      · exact wx.all d (List.mem_of_mem_drop hd)
  · have l1 := codes_len z
    have l2 := codes_len x
    rw [hz] at l1
    rw [hx] at l2
    simp only [List.length_append, List.length_cons] at l1 l2
    omega
theorem one_mend {z x : PySem.Str} {j : Nat} (o : One z x j) (h : isSoundb x = true) : isSoundb z = false ∧ Int.fmod (wlF z * turn (plF z)) 37 = (j : Int) + 1 ∧ mendS z = x ∧ plF z ≠ 0 := by
  obtain ⟨a, b, c, d, hx, hz, hj, hne⟩ := o.ex
  have m := mend_one hx hz o.w h hne
  have m2 : Int.fmod (wlF z * turn (plF z)) 37 = (j : Int) + 1 := by
    have := m.2.1
    unfold mw at this
    rw [this, hj]
  refine ⟨m.1, m2, m.2.2, fun q => ?_⟩
  rw [q, turn_zero (n := 0) (by decide), Int.mul_zero] at m2
  have z0 : Int.fmod (0 : Int) 37 = 0 := by decide
  omega
end G
end
section
open PySem PySem.W PyProof.Rows PySem.Calls PySem.Spec
set_option Elab.async false
set_option maxHeartbeats 4000000
namespace G
open PySem.W.KStt (codes)
section
variable {prog : Program} {w : World} {A : Around} {E : Value → Shared → Prop} {s : Shared} {Q : Value → Shared → Prop} {t u : Tok}
theorem step_modv {x y : Int} (hy : 0 < y) (h : ∀ r, 0 ≤ r → r < y → Q (.int r s.toks) { s with toks := s.toks + 1 }) : wpAny (model prog w) A (binaryOp .Mod (.int x t) (.int y u)) Q E s :=
  PyProof.Rows.mod_int (by omega) (h _ (Int.fmod_nonneg_of_pos x hy) (Int.fmod_lt_of_pos x hy))
end
theorem mended_is {x a b y z L : PySem.Str} {c i : Nat} {j k v : Int} (e' : codes z = codes y ++ codes b) (e : codes y = codes a ++ codes (signS v)) (ha : codes a = (codes x).take j.toNat) (hb : codes b = (codes x).drop k.toNat) (hc : (codes x)[j.toNat]? = some (c : Int))
    (o : One x L i) (hs : isSoundb L = true) (hj : j = (i : Int)) (hk : k = (i : Int) + 1) (hv : v = num c - plF x) : codes z = codes L := by
  have m := one_mend o hs
  have hm : mw x = (i : Int) + 1 := m.2.1
  have q := mend_out2 (x := x) (a := a) (b := b) (y := y) (z := z) (c := c) (j := j) (k := k) (v := v) m.1 (by omega) (by omega) (by omega) ha hc hv e hb e'
  rw [q, m.2.2.1]
/-- the numbers tried so far don't fit -/
structure Miss (n : Int) (pre : List Int) : Prop where
  no : ∀ c ∈ pre, ¬ Int.fmod (c * n) 37 = 1
theorem miss0 (n : Int) : Miss n [] := ⟨fun _ h => nomatch h⟩
theorem miss1 {n c : Int} {pre : List Int} (H : Miss n pre) (h : ¬ Int.fmod (c * n) 37 = 1) : Miss n (pre ++ [c]) := by
  refine ⟨fun z hz => ?_⟩
  rcases List.mem_append.mp hz with hz | hz
  · exact H.no z hz
  · rw [List.mem_singleton.mp hz]
    exact h
theorem hitF {c n : Int} (h : Int.fmod (c * n) 37 = 1) (h0 : 0 ≤ c) (h1 : c < 37) : c = turn n := by
  rw [fm] at h
  exact hit h h0 h1
theorem noneF {n : Int} (H : Miss n (PySem.W.rangeKs 1 36)) : 0 = turn n := by
  by_cases z : n % 37 = 0
  · exact (turn_zero z).symm
  · have g := turn_good z
    have r := turn_in n
    have p : turn n ≠ 0 := by
      intro e
      rw [e, Int.zero_mul] at g
      exact absurd g (by decide)
    refine absurd (by rw [fm]; exact g) (H.no (turn n) ?_)
    unfold PySem.W.rangeKs
    exact List.mem_map.mpr ⟨(turn n - 1).toNat, List.mem_range.mpr (by omega), by omega⟩
theorem turn_bd (n : Int) : 0 ≤ turn n ∧ turn n ≤ 36 := turn_in n
end G
end
section
open PySem PySem.W PyProof.Rows PySem.Calls PySem.Spec Builtin Builtin.ObjectAttr Builtin.Getset_descriptor
set_option Elab.async false
set_option maxHeartbeats 4000000
set_option maxRecDepth 100000
namespace G
/-! an error of an own class, asked for its class -/
def ErrAt (x C : Addr) (h : Heap) : Prop := ∃ o, h.get? x = some o ∧ o.cls = .ref C
structure ErrO (o : Obj) (C : Addr) : Prop where
  cls : o.cls = .ref C
structure ErrK (K : Frag) (C : Addr) : Prop where
  ga : findIn K (.ref C) "__getattribute__" = some (some (.builtin "BaseException.__getattribute__"))
  gh : findIn K (.ref C) "__getattr__" = some none
  ca : findIn K (.ref C) "__class__" = some (some (.builtin "object.__class__"))
  cg : specialIn K (.builtin "object.__class__") "__get__" = some (some (.builtin "getset_descriptor.__get__"))
  ct : takesIn K (.builtin "object.__class__") = some true
  mo : mroIn K C (.type "object") = some true
  mb : mroIn K C (.type "BaseException") = some true
section
variable {prog : Program} {w : World} {A : Around} {E : Value → Shared → Prop} {K : Frag} {x C : Addr} {h : Heap}
theorem errAt_ty {M : Model} (e : ErrAt x C h) : Looks M h (typeOf (.ref x)) (.ref C) := by
  obtain ⟨o, h1, h2⟩ := e
  exact h2 ▸ (Looks.ld h1).andThen .now
theorem errAt_of {h₀ : Heap} {L : Addr} {news : List (Addr × Obj)} {o : Obj} (N : News h₀ L h news) (hm : (x, o) ∈ news) (hc : ErrO o C) : ErrAt x C h := ⟨o, (N _ hm).1, hc.cls⟩
theorem err_find {M : Model} (X : K.In h) (k : ErrK K C) : Looks M h (find (.ref x) (.ref C) "__class__") (.bind (.builtin "getset_descriptor.__get__") (.builtin "object.__class__")) := by
  have a1 := looks_findIn (M := M) X k.ca
  have a2 : Looks M h (getOf (some (.builtin "object.__class__"))) (some (.builtin "getset_descriptor.__get__")) := looks_specialIn (M := M) X k.cg
  have a3 := looks_takesIn (M := M) X k.ct
  refine a1.andThen (Looks.andThen (a := some (.builtin "getset_descriptor.__get__")) a2 ?_)
  exact (show Looks M h (dataDescriptor? (some (.builtin "object.__class__")) (some (.builtin "getset_descriptor.__get__"))) (some (.builtin "getset_descriptor.__get__", .builtin "object.__class__")) from a3.andThen .now).andThen (Looks.tag .now)
theorem err_get {g : Array GenState} {d : Drawn} {t : Nat} {os : OsState} {R : Result → Shared → Prop} {tp : Value} (X : K.In h) (k : ErrK K C) (e : ErrAt x C h) (q : R (.ok (.ret (.ref C))) ⟨h, g, d, t, os⟩) :
    codeAny (model prog w) A (.call (.builtin "getset_descriptor.__get__") ⟨[.builtin "object.__class__", .ref x, tp], []⟩) R ⟨h, g, d, t, os⟩ := by
  have b0 := errAt_ty (M := model prog w) e
  have b1 := looks_mroIn (M := model prog w) X k.mo
  refine codeAny_call_builtin KF.slot_gs.plain KF.entry_gs (KF.slot_gs.check _ _ _ _ _ _ _ _ KF.type_class (KF.args_gs _ _ _) ?_)
  unfold Builtin.«getset_descriptor.__get__»
  unfold descrGet
  rw [dga_obj]
  refine wpAny_bind (wpAny_pure ?_)
  unfold descrGetter
  unfold descrCheckInstance
  unfold descrNameAndClass
  unfold isInstance
  simp only [KF.owner_class]
  repeat lk
  refine ⟨Code.quiet_builtin _ (by decide +kernel), ?_⟩
  refine codeAny_builtin KF.entry_class ?_
  unfold Builtin.«object.__class__»
  unfold shownTypeOf
  repeat lk
  exact q
theorem err_entry {g : Array GenState} {d : Drawn} {t : Nat} {os : OsState} {tk : Tok} {Q : Fin → Shared → Prop} (X : K.In h) (k : ErrK K C) (e : ErrAt x C h) (q : Q (.done (.ret (.ref C))) ⟨h, g, d, t, os⟩) :
    wpAny (model prog w) A (Builtin.«object.__getattribute__» ⟨[.ref x, .str "__class__" tk], []⟩) Q E ⟨h, g, d, t, os⟩ := by
  have b0 := errAt_ty (M := model prog w) e
  have b1 := err_find (M := model prog w) (x := x) X k
  refine wpAny_bind (wpAny_pure (wpAny_bind (wpAny_pure (wpAny_bind (b0.at (wpAny_bind (b1.at ?_)))))))
  show wpAny _ _ (holding [.builtin "object.__class__"] (call (.builtin "getset_descriptor.__get__") [.builtin "object.__class__", .ref x, .ref C]) >>= ret) _ _ _
  exact wpAny_bind (wpAny_holding (wpAny_call (err_get X k e (wpAny_pure q))))
theorem err_call {g : Array GenState} {d : Drawn} {t : Nat} {os : OsState} {tk : Tok} {R : Result → Shared → Prop} (X : K.In h) (k : ErrK K C) (e : ErrAt x C h) (q : R (.ok (.ret (.ref C))) ⟨h, g, d, t, os⟩) :
    codeAny (model prog w) A (.call (.builtin "BaseException.__getattribute__") ⟨[.ref x, .str "__class__" tk], []⟩) R ⟨h, g, d, t, os⟩ := by
  have b0 := errAt_ty (M := model prog w) e
  have b1 := looks_mroIn (M := model prog w) X k.mb
  have hk : builtinKind "BaseException.__getattribute__" = some .slot := by decide +kernel
  have hs : splitId "BaseException.__getattribute__" = some ("BaseException", "__getattribute__") := by decide +kernel
  have ha := F.args_bexc_ga (.ref x) (.str "__class__" tk)
  refine codeAny_call_builtin F.excAttr_ValueError.ga.plain F.entry_bexc_ga ?_
  simp only [checkBuiltinCall, hk, hs]
  unfold isInstance
  refine wpAny_bind ?_
  refine wpAny_bind (b0.at (b1.at ?_))
  repeat (any_goals (first | assumption | exact err_entry X k e q | wp_step))
theorem err_class {s : Shared} {Q : Option Value → Shared → Prop} (X : K.In s.heap) (k : ErrK K C) (e : ErrAt x C s.heap) (q : Q (some (.ref C)) { s with toks := s.toks + 1 }) :
    wpAny (model prog w) A (getAttr? (.ref x) "__class__") Q E s := by
  obtain ⟨hh, g, d, t, os⟩ := s
  have b0 := errAt_ty (M := model prog w) e
  have b1 := looks_findIn (M := model prog w) X k.ga
  have b2 := looks_findIn (M := model prog w) X k.gh
  have f3 := F.excAttr_ValueError.ga.bind (.ref x)
  have n2 : (Value.builtin "BaseException.__getattribute__" == Value.builtin "object.__getattribute__") = false := by decide +kernel
  unfold getAttr?
  unfold getAttrBy?
  unfold getAttrBy
  refine wpAny_bind (wpAny_mkText (wpAny_bind (wpAny_attempt (wpAny_holding (wpAny_bind (b0.at (wpAny_bind (b1.at ?_))))))))
  dsimp only
  rw [n2, Bool.and_false]
  simp only [Bool.false_eq_true, if_false]
  unfold getAttrByItsOwn hookBefore
  refine wpAny_bind ?_
  rw [if_pos (show onTheHeap (Value.ref C) = true from rfl)]
  refine b2.at ?_
  unfold callGetattribute boundAndCalled
  refine wpAny_bind (wpAny_attempt (wpAny_holding ?_))
  rw [if_neg (by decide), f3]
  refine wpAny_bind (wpAny_pure ?_)
  refine wpAny_call (err_call (g := g) (d := d) (t := t + 1) (os := os) X k e ?_)
  repeat (any_goals (first | assumption | wp_step))
theorem err_kitx (k : ErrK K C) (hc : (clsIn K C).isSome = true) : KitX K (.ref x) (.ref C) (ErrAt x C) where
  ty := fun _ _ _ e => errAt_ty e
  it := fun M h X _ => by
    obtain ⟨cd, hcd⟩ := Option.isSome_iff_exists.mp hc
    unfold clsIn at hcd
    split at hcd
    · rename_i ho
      intro A' Q' E' s' kk q
      unfold isType
      unfold loadHead
      exact wpAny_bind (wpAny_loadPart (kk _ _ (X _ _ ho)) (wpAny_pure q))
    · cases hcd
  ne := fun h tp dd its n sl X htp => by
    obtain ⟨cd, hcd⟩ := Option.isSome_iff_exists.mp hc
    refine Bool.eq_false_iff.mpr fun q => ?_
    have e := Value.ref.inj (beq_iff_eq.mp q)
    subst e
    unfold clsIn at hcd
    split at hcd
    · rename_i ho
      cases (X _ _ ho).symm.trans htp
    · cases hcd
  ca := fun X e q => err_class X k e q
end
end G
end
section
open PySem PySem.W PyProof.Rows PySem.Calls PySem.Spec
set_option maxHeartbeats 4000000
namespace G
section
variable {prog : Program} {w : World} {B₀ : Around} {E : Value → Shared → Prop} {z : Shared} {g₀ g : Heap} {fs : List Env} {L fa er tu : Addr} {lm : PySem.Str → Option Value} {fn : PySem.Str} {fsc : Scope} {co : Value}
  {args : List Value} {nm : PySem.Str} {st : Stmt} {sts : List Stmt} {p1 p2 : Pos} {more : List ExceptHandler} {Q : Flow → Shared → Prop} {led : List (Addr × Obj)} {KF : Frag} {C1 C2 : Addr} {bm1 bm2 : List Value} {new1 new2 : String}
  {pr : Program} {loose : List PySem.Str} {mg mb : PySem.Str → Option Value} {x1 x2 : PySem.Str}
/-- except Base as e, where the error's own class stands under the own class Base -/
theorem caught_err (bel : Below B₀ g₀ fs g₀) (fr : Fr g₀ L g lm) (up : g.UpToSlots z.heap) (ra : RaisedK g₀ (envOf fn fsc L fa co :: fs) er (.ref C1) tu args led z.heap)
    (kin : KF.In g₀) (top : TopRead pr loose mg mb g₀) (b1 : nsIn KF mainGlobals x1 = some (some (.ref C1))) (q1 : excIn KF C1 bm1 new1 = true) (b2 : nsIn KF mainGlobals x2 = some (some (.ref C2))) (q2 : excIn KF C2 bm2 new2 = true) (qu : upIn KF C1 C2 = true)
    (hb : bm2.contains (.type "BaseException") = true)
    (go : ∀ h' o ot tk, ErrO o C1 → Fr g₀ L h' (fun y => if y = nm then some (.ref er) else lm y) → News g₀ L h' ((er, o) :: (tu, ot) :: led) →
      wpAny (model prog w) ((B₀.deeper (envOf fn fsc L fa co)).mark (some (.ref er))) (execs (st :: sts) (envOf fn fsc L fa co))
        (fun f s₄ => wpAny (model prog w) (B₀.deeper (envOf fn fsc L fa co)) (do bindName (envOf fn fsc L fa co) nm .none; unbindBehindTheSuite (envOf fn fsc L fa co) nm p2) (fun _ s₅ => Q f s₅) E s₄)
        (AsSuiteRaised (model prog w) ((B₀.deeper (envOf fn fsc L fa co)).mark (some (.ref er))) (envOf fn fsc L fa co) nm p2 (notedBy (model prog w) ((B₀.deeper (envOf fn fsc L fa co)).mark (some (.ref er))) (envOf fn fsc L fa co) (cameBackBy (model prog w) (B₀.deeper (envOf fn fsc L fa co)) (envOf fn fsc L fa co) E)))
        { z with heap := h', toks := tk })
    (hk : fsc.kind = .function := by rfl) (hlo : (envOf fn fsc L fa co).kindOf nm = some .local := by rfl) (hx : (envOf fn fsc L fa co).kindOf x2 = some .globalImplicit := by rfl) (hd : (x2 == ("__debug__" : PySem.Str)) = false := by decide) :
    wpAny (model prog w) (B₀.deeper (envOf fn fsc L fa co)) (noteFrame (.ref er) (envOf fn fsc L fa co))
      (fun _ s₂ => wpAny (model prog w) (B₀.deeper (envOf fn fsc L fa co)) (setFlight (.ref er) none) (fun _ s₃ =>
        wpAny (model prog w) (B₀.deeper (envOf fn fsc L fa co)) (handleBy (.ref er) (envOf fn fsc L fa co) (.ExceptHandler (some (.Name x2 p1)) (some nm) (st :: sts) p2 :: more)) Q E s₃) E s₂) E z := by
  obtain ⟨⟨bb, sB, inB, fly, tuB⟩, tup⟩ := ra
  have frB : bb.get? L = none := by
    obtain ⟨_, ⟨L2, _, ef, en, _⟩, _⟩ := fly.2.2.1
    have e2 : L = L2 := Option.some.inj ef
    rw [e2]; exact en
  refine wpAny_looks_onW (Around.frames_deeper bel.stack) rfl fly fun ha heldA smA => ?_
  refine wpAny_landsW heldA fun hb5 held smB => ?_
  have sm5 := smA.trans smB
  have held0 := flyingW_base sB held
  have fr5 := fr.of_stays held0.1 (up.trans sm5)
  obtain ⟨oe, hoe, hoc⟩ := held0.there
  refine wpAny_handleBy_cons (codeAny_handlers_test (name_K fr5 kin top b2 ?_ hk hx hd)) (by intro zz; cases zz)
  obtain ⟨_, _, _, _, _, _, _, _, _, _, _, _, _, _, _, _, _, hC1, _, _, _⟩ := ((own_of_in kin top b1 q1).keeps fr5.keep).obj
  obtain ⟨_, _, _, _, _, _, _, _, _, _, _, _, _, _, _, _, _, hC2, _, _, TL2⟩ := ((own_of_in kin top b2 q2).keeps fr5.keep).obj
  refine matches_up hC1 hC2 hoe hoc (TL2.hasType hb) (upIn_at (kin.keeps fr5.keep) qu hC1) (codeAny_handlers_suite_as ?_)
  refine lands_againW held fun h6 fl6 sm6 => ?_
  have fl6' := flyingW_base sB fl6
  have fr6 := fr.of_stays fl6'.1 ((up.trans sm5).trans sm6)
  obtain ⟨o6, ws, g6, c6, d6, z6⟩ := fl6'.first
  obtain ⟨ot, nt, gt, ct, dt⟩ := (tup.of_slots sm5).of_slots sm6
  have nw6 := News.more fr6 (News.more fr6 News.nil gt (fun es n q => by rw [dt] at q; cases q) (fresh_of_stays sB tuB)) g6 (fun es n q => by rw [d6] at q; cases q) fl6'.2.1
  have nwl : News g₀ L h6 led := fun q hq => ⟨fl6.1 _ _ (inB q hq).1, (fun zz => by have := (inB q hq).1; rw [zz, frB] at this; cases this), (inB q hq).2⟩
  refine stN fr6 (news := (er, o6) :: (tu, ot) :: led) (fun q hq => ?_) (fun h7 fr7 nw7 => ?_) hk hlo
  · rcases List.mem_cons.mp hq with e | hq
    · exact nw6 q (by rw [e]; exact List.mem_cons_self)
    · rcases List.mem_cons.mp hq with e | hq
      · exact nw6 q (by rw [e]; exact List.mem_cons_of_mem _ List.mem_cons_self)
      · exact nwl q hq
  · exact go h7 _ _ _ ⟨c6⟩ fr7 nw7
end
end G
end
section
open PySem PySem.W PyProof.Rows PySem.Calls PySem.Spec
set_option Elab.async false
set_option maxHeartbeats 4000000
namespace G
open PySem.W.KStt (codes)
/-! the nearest sound text, found by trying each place -/
theorem mw_lo (x : PySem.Str) : 0 ≤ mw x := fm_lo _
theorem mw_hi (x : PySem.Str) : mw x < 37 := fm_hi _
theorem mw_zero {x : PySem.Str} (h : plF x = 0) : mw x = 0 := by
  unfold mw
  rw [h, turn_zero (n := 0) (by decide), Int.mul_zero]
  rfl
theorem ld_pl {x : PySem.Str} {p w h : Int} (l : LD (codes x) p w h) : Int.fmod p 37 = plF x := by rw [plF_eq, fm, l.p]; rfl
theorem ld_wl {x : PySem.Str} {p w h : Int} (l : LD (codes x) p w h) : Int.fmod w 37 = wlF x := by rw [wlF_eq, fm, l.w]; rfl
section
variable {prog : Program} {w : World} {A : Around} {E : Value → Shared → Prop} {s : Shared} {Q : Value → Shared → Prop} {t u : Tok}
theorem step_weight {x : PySem.Str} (h : 0 ≤ mw x → mw x < 37 → (plF x = 0 → mw x = 0) → Q (.int (mw x) s.toks) { s with toks := s.toks + 1 }) : wpAny (model prog w) A (binaryOp .Mod (.int (wlF x * turn (plF x)) t) (.int 37 u)) Q E s :=
  PyProof.Rows.mod_int (by omega) (h (mw_lo x) (mw_hi x) mw_zero)
end
/-- z is x with its plain load taken off the sign in the place k -/
structure Oth (z x : PySem.Str) (k : Int) : Prop where
  ex : ∃ (a b : List Int) (c : Int), codes x = a ++ c :: b ∧ codes z = a ++ sgn (Int.fmod (num c + (0 - plF x)) 37) :: b ∧ (a.length : Int) = k ∧ c ∈ sgl
  w : IsW z
  len : z.length = x.length
  k0 : 0 ≤ k
  k1 : k < x.length
theorem oth_of {x a y b z : PySem.Str} {c c2 : Nat} {j k : Int} (e2 : codes z = codes y ++ codes b) (e1 : codes y = codes a ++ codes ⟨#[c2]⟩) (ea : codes a = (codes x).take j.toNat) (eb : codes b = (codes x).drop k.toNat) (hc : (codes x)[j.toNat]? = some (c : Int))
    (hc2 : (c2 : Int) = sgn (Int.fmod (num c + (0 - plF x)) 37)) (wx : IsW x) (hk : k = j + 1) (h0 : 0 ≤ j) : Oth z x j := by
  have hlt : j.toNat < (codes x).length := (List.getElem?_eq_some_iff.mp hc).1
  have hx : codes x = (codes x).take j.toNat ++ (c : Int) :: (codes x).drop (j.toNat + 1) := by
    have e := List.take_append_drop j.toNat (codes x)
    rw [List.drop_eq_getElem_cons hlt, (List.getElem?_eq_some_iff.mp hc).2] at e
    exact e.symm
  have ek : k.toNat = j.toNat + 1 := by omega
  have hz : codes z = (codes x).take j.toNat ++ (c2 : Int) :: (codes x).drop (j.toNat + 1) := by
    rw [e2, e1, ea, eb, ek, codes_one, List.append_assoc]; rfl
  have hcs : (c : Int) ∈ sgl := wx.all _ (List.mem_of_getElem? hc)
  have hc2s : (c2 : Int) ∈ sgl := by rw [hc2]; exact sgn_in (fm_lo _) (fm_hi _)
  have lx := codes_len x
  refine ⟨⟨_, _, _, hx, by rw [hz, hc2], by rw [List.length_take]; omega, hcs⟩, ⟨fun d hd => ?_⟩, ?_, h0, by omega⟩
  · rw [hz] at hd
    rcases List.mem_append.mp hd with hd | hd
    · exact wx.all d (List.mem_of_mem_take hd)
    · rcases List.mem_cons.mp hd with rfl | hd
      · exact hc2s
      · exact wx.all d (List.mem_of_mem_drop hd)
  · have l1 := codes_len z
    have l2 := codes_len x
    rw [hz] at l1
    rw [hx] at l2
    simp only [List.length_append, List.length_cons] at l1 l2
    omega
theorem oth_same {z x : PySem.Str} {k : Int} (o : Oth z x k) (h : plF x = 0) : codes z = codes x := by
  obtain ⟨a, b, c, hx, hz, _, hc⟩ := o.ex
  have c0 := num_lo hc
  have c1 := num_hi hc
  rw [hx, hz, h, fm, show (num c + (0 - 0)) % 37 = num c by omega, sgn_num hc]
theorem oth_ne {z x : PySem.Str} {k : Int} (o : Oth z x k) (h : ¬ plF x = 0) : ¬ codes z = codes x := by
  obtain ⟨a, b, c, hx, hz, _, hc⟩ := o.ex
  have c0 := num_lo hc
  have c1 := num_hi hc
  have p0 := plF_lo x
  have p1 := plF_hi x
  intro e
  rw [hx, hz] at e
  have e1 := List.cons.inj (List.append_cancel_left e)
  have q : num (sgn (Int.fmod (num c + (0 - plF x)) 37)) = num c := by rw [e1.1]
  rw [num_sgn (fm_lo _) (fm_hi _), fm] at q
  omega
theorem oth_nums {z x : PySem.Str} {k : Int} (o : Oth z x k) : ∃ (a b : List Int) (n : Int), (codes x).map num = a ++ n :: b ∧ (codes z).map num = a ++ ((n - plF x) % 37) :: b ∧ (a.length : Int) = k := by
  obtain ⟨a, b, c, hx, hz, hk, hc⟩ := o.ex
  refine ⟨a.map num, b.map num, num c, by rw [hx, List.map_append, List.map_cons], ?_, by rw [List.length_map]; exact hk⟩
  rw [hz, List.map_append, List.map_cons, num_sgn (fm_lo _) (fm_hi _), fm, show num c + (0 - plF x) = num c - plF x by omega]
theorem oth_pl {z x : PySem.Str} {k : Int} (o : Oth z x k) : plF z = 0 := by
  obtain ⟨a, b, n, hx, hz, hk⟩ := oth_nums o
  rw [plF_eq]
  unfold pl
  rw [hz]
  refine mend_sum ?_
  rw [plF_eq]
  unfold pl
  rw [hx]
  omega
theorem oth_wl {z x : PySem.Str} {k : Int} (o : Oth z x k) (hl : x.length ≤ 36) (h : ¬ plF x = 0) : wlF z = 0 ↔ k + 1 = mw x := by
  obtain ⟨a, b, n, hx, hz, hk⟩ := oth_nums o
  have k1 := o.k1
  have p0 := plF_lo x
  have p1 := plF_hi x
  have hw : wt a.length = k + 1 := by rw [wt_small (by omega)]; omega
  have e : wlF z = (wl x - (k + 1) * plF x) % 37 := by
    rw [wlF_eq]
    unfold wl
    rw [hz, mend_W, hw, hx]
  have pz := place (k := k + 1) (p := plF x) (q := wl x) (by omega) (by omega) (by omega)
  rw [e, pz]
  unfold mw
  rw [fm, wlF_eq, ← mul_mod']
theorem mended_oth {x a b y z v : PySem.Str} {c : Nat} {j k i n : Int} (e' : codes z = codes y ++ codes b) (e : codes y = codes a ++ codes (signS n)) (ha : codes a = (codes x).take j.toNat) (hb : codes b = (codes x).drop k.toNat) (hc : (codes x)[j.toNat]? = some (c : Int))
    (o : Oth v x i) (hi : i + 1 = mw x) (hj : j = mw x - 1) (hk : k = mw x) (hn : n = num c - plF x) : codes z = codes v := by
  obtain ⟨p, q, d, hx, hv, hp, hd⟩ := o.ex
  have ij : j.toNat = p.length := by omega
  have kk : k.toNat = p.length + 1 := by omega
  rw [hx, ij, List.getElem?_append_right (Nat.le_refl _), Nat.sub_self] at hc
  have hdc : d = (c : Int) := Option.some.inj hc
  rw [e', e, ha, hb, codes_signS, hx, hv, ij, kk, List.take_left' rfl, ← List.drop_drop, List.drop_left' rfl, hn, hdc, List.append_assoc, show num (c : Int) - plF x = num (c : Int) + (0 - plF x) by omega]
  rfl
/-- no place up to here is the one -/
structure NotYet (x : PySem.Str) (pre : List Int) : Prop where
  no : ¬ (1 ≤ mw x ∧ mw x ≤ pre.length)
theorem notyet0 {x : PySem.Str} : NotYet x [] := ⟨by simp only [List.length_nil]; omega⟩
theorem notyet1 {x : PySem.Str} {pre : List Int} {k : Int} (h : NotYet x pre) (hk : k = 0 + (pre.length : Int)) (n : ¬ k + 1 = mw x) : NotYet x (pre ++ [k]) := ⟨by
  have := h.no
  rw [List.length_append, List.length_singleton]
  omega⟩
theorem odd_clash {x : PySem.Str} (a : AllW (codes x)) (h : HasOdd x) : False := by
  obtain ⟨c, hc, n⟩ := h.has
  exact n (a.all c hc)
end G
end
section
open PySem PySem.W PyProof.Rows PySem.Calls PySem.Spec
set_option Elab.async false
set_option maxHeartbeats 4000000
namespace G
open PySem.W.KStt (codes)
/-! the count of tokens kept -/
structure Tk (n k : Nat) : Prop where
  le : n ≤ k
theorem Tk.up {n k k' : Nat} (h : Tk n k) (e : k ≤ k') : Tk n k' := ⟨Nat.le_trans h.le e⟩
theorem Tk.ne {n k u : Nat} (h : Tk n k) (hu : u < n) : u ≠ k := by have := h.le; omega
theorem Tk.pos {n k : Nat} (h : Tk n k) (hu : 0 < n) : k ≠ 0 := by have := h.le; omega
section
variable {α : Type} {M : Model} {A : Around} {s : Shared} {E : Value → Shared → Prop} {n : Nat}
theorem with_tk {t : Sem α} {Q : α → Shared → Prop} (hn : Tk n s.toks) (h : wpAny M A t (fun a s' => Tk n s'.toks → Q a s') E s) : wpAny M A t Q E s :=
  wpAny_mono (wpAny_toks_of hn.le h) (fun _ _ x => x.2 ⟨x.1⟩) (fun _ _ x => x.2)
theorem with_le {t : Sem α} {Q : α → Shared → Prop} (h : wpAny M A t (fun a s' => s.toks ≤ s'.toks → Q a s') E s) : wpAny M A t Q E s :=
  wpAny_mono (wpAny_toks_of (Nat.le_refl _) h) (fun _ _ x => x.2 x.1) (fun _ _ x => x.2)
theorem execs_tk {st : Stmt} {rest : List Stmt} {env : Env} {Q : Flow → Shared → Prop} (hn : Tk n s.toks)
    (h : wpAny M A (exec st env) (fun f s' => Tk n s'.toks → (match f with | .next => wpAny M A (execs rest env) Q E s' | f => Q f s')) E s) : wpAny M A (execs (st :: rest) env) Q E s :=
  wpAny_execs_cons (with_tk hn h)
end
section
variable {prog : Program} {w : World} {A : Around} {E : Value → Shared → Prop} {s : Shared} {x y : PySem.Str} {t u v : Tok} {Q : Value → Shared → Prop} {c : Nat} {a b : List Int}
theorem step_addT (hz : x.length + y.length ≤ 16777216) (h : ∀ (z : PySem.Str) (t' : Tok) (k : Nat), codes z = codes x ++ codes y → z.length = x.length + y.length → s.toks ≤ k → Q (.str z t') { s with toks := k }) :
    wpAny (model prog w) A (binaryOp .Add (.str x t) (.str y u)) Q E s :=
  with_le (step_add hz h)
end
/-- the head's facts, with the count of tokens -/
theorem z_in {K : Params → Frag} {as : List Addr} (e : ∀ P, as = (K P).map (·.1)) {n t : Nat} {w : World} {s s' : Shared} {R : WRecords} {args : List WData} {vals : List Value} {bs : List Addr} (y : X.obsZ as s = X.valZ K n t w) (L : Laid R w s s' args vals bs) : Frag.In (K w.params) s'.heap ∧ s.toks = t :=
  have f := X.z_facts e y
  ⟨InK.keeps w s.heap s'.heap f.2.1 L.keeps, f.2.2.2⟩
end G
end
section
open PySem PySem.W PyProof.Rows PySem.Calls PySem.Spec
set_option Elab.async false
set_option maxHeartbeats 4000000
namespace G
open PySem.W.KStt (codes)
/-! gaps, as the laws make them -/
theorem codes_dot : codes (PySem.Str.ofString ".") = [46] := by decide +kernel
theorem gap_end {x z : PySem.Str} (e : codes z = codes x ++ codes (PySem.Str.ofString ".")) (w : IsW x) : Gap z (codes x) [] :=
  ⟨by rw [e, codes_dot], w.all, fun _ h => nomatch h⟩
theorem gap_in {x y a b z : PySem.Str} {j : Nat} (e2 : codes z = codes y ++ codes b) (e1 : codes y = codes a ++ codes (PySem.Str.ofString ".")) (ea : codes a = (codes x).take j) (eb : codes b = (codes x).drop j) (w : IsW x) : Gap z ((codes x).take j) ((codes x).drop j) :=
  ⟨by rw [e2, e1, ea, eb, codes_dot, List.append_assoc]; rfl, fun c hc => w.all c (List.mem_of_mem_take hc), fun c hc => w.all c (List.mem_of_mem_drop hc)⟩
/-- a text with one gap, and a sign that is none of the 37 -/
structure GapO (x : PySem.Str) : Prop where
  ex : ∃ a b : List Int, codes x = a ++ 46 :: b ∧ ¬ (46 : Int) ∈ a ∧ ¬ (46 : Int) ∈ b ∧ ∃ c ∈ a ++ b, ¬ c ∈ sgl
theorem gapo_count {x : PySem.Str} (g : GapO x) : Txt.count x ⟨#[46]⟩ = 1 := by
  obtain ⟨a, b, hx, ha, hb, _⟩ := g.ex
  obtain ⟨a', b', e, ea, eb⟩ := split46 hx
  have na : 46 ∉ a' := fun h => ha (ea ▸ cast_in h)
  have nb : 46 ∉ b' := fun h => hb (eb ▸ cast_in h)
  rw [count_cnt, e, cnt_append, cnt_cons, cnt_none 46 a' na, cnt_none 46 b' nb, if_pos rfl]
  rfl
theorem gapo_rest {x z : PySem.Str} {d : Int} (g : GapO x) (e : codes z = (codes x).map fun k => if k = 46 then d else k) : HasOdd z := by
  obtain ⟨a, b, hx, ha, hb, c, hc, n⟩ := g.ex
  have h46 : ¬ c = 46 := by
    intro q
    rcases List.mem_append.mp hc with h | h
    · exact ha (q ▸ h)
    · exact hb (q ▸ h)
  refine ⟨c, ?_, n⟩
  rw [e, hx]
  refine List.mem_map.mpr ⟨c, ?_, by rw [if_neg h46]⟩
  rcases List.mem_append.mp hc with h | h
  · exact List.mem_append_left _ h
  · exact List.mem_append_right _ (List.mem_cons_of_mem _ h)
/-- an odd sign that is no gap, put in -/
structure OddM (c : Nat) : Prop where
  no : ¬ (c : Int) ∈ sgl
  gap : ¬ (c : Int) = 46
theorem marks_gap : ∀ c ∈ codes marks, ¬ c = 46 := by decide +kernel
theorem gapo_of {x a b y z : PySem.Str} {c : Nat} {j : Nat} {p q : List Int} (e2 : codes z = codes y ++ codes b) (e1 : codes y = codes a ++ codes ⟨#[c]⟩) (ea : codes a = (codes x).take j) (eb : codes b = (codes x).drop j) (o : OddM c) (g : Gap x p q) : GapO z := by
  have n46p : ¬ (46 : Int) ∈ p := fun h => no46 (g.wa _ h)
  have n46q : ¬ (46 : Int) ∈ q := fun h => no46 (g.wb _ h)
  have hz : codes z = (codes x).take j ++ (c : Int) :: (codes x).drop j := by
    rw [e2, e1, ea, eb, codes_one, List.append_assoc]; rfl
  rw [g.eq] at hz
  by_cases h : j ≤ p.length
  · rw [List.take_append_of_le_length h, List.drop_append_of_le_length h] at hz
    refine ⟨p.take j ++ (c : Int) :: p.drop j, q, by rw [hz]; simp, ?_, n46q, c, by simp, o.no⟩
    intro m
    rcases List.mem_append.mp m with m | m
    · exact n46p (List.mem_of_mem_take m)
    · rcases List.mem_cons.mp m with m | m
      · exact o.gap m.symm
      · exact n46p (List.mem_of_mem_drop m)
  · have e3 : (p ++ 46 :: q).take j = p ++ 46 :: q.take (j - p.length - 1) := by
      rw [List.take_append, List.take_of_length_le (by omega), show j - p.length = (j - p.length - 1) + 1 by omega, List.take_succ_cons]
      rfl
    have e4 : (p ++ 46 :: q).drop j = q.drop (j - p.length - 1) := by
      rw [List.drop_append, List.drop_of_length_le (by omega), show j - p.length = (j - p.length - 1) + 1 by omega, List.drop_succ_cons]
      rfl
    rw [e3, e4] at hz
    refine ⟨p, q.take (j - p.length - 1) ++ (c : Int) :: q.drop (j - p.length - 1), by rw [hz]; simp, n46p, ?_, c, by simp, o.no⟩
    intro m
    rcases List.mem_append.mp m with m | m
    · exact n46q (List.mem_of_mem_take m)
    · rcases List.mem_cons.mp m with m | m
      · exact o.gap m.symm
      · exact n46q (List.mem_of_mem_drop m)
/-- the gap filled: its signs, and its load -/
structure Fil (z : PySem.Str) (a b : List Int) : Prop where
  ex : ∃ c : Int, codes z = a ++ c :: b ∧ c ∈ sgl
  w : IsW z
  wl : wlF z = 0
  len : z.length = a.length + b.length + 1
theorem isW_rest {x z : PySem.Str} {a b : List Int} {c : Nat} (g : Gap x a b) (e : codes z = (codes x).map fun d => if d = 46 then (c : Int) else d) (hc : (c : Int) ∈ sgl) : IsW z := ⟨by
  rw [gap_map g] at e
  intro d hd
  rw [e] at hd
  rcases List.mem_append.mp hd with h | h
  · exact g.wa d h
  · rcases List.mem_cons.mp h with rfl | h
    · exact hc
    · exact g.wb d h⟩
theorem fil_of {x rest z : PySem.Str} {a b : List Int} {c0 c : Nat} (ez : codes z = (codes x).map fun d => if d = 46 then (c : Int) else d) (hc : (c : Int) = sgn (Int.fmod (-wlF rest * turn (Int.fmod (a.length : Int) 36 + 1)) 37)) (er : codes rest = (codes x).map fun d => if d = 46 then (c0 : Int) else d) (h0 : (c0 : Int) = sgn (Int.fmod 0 37)) (g : Gap x a b) : Fil z a b := by
  have s0 : sgn (Int.fmod 0 37) = 48 := by decide +kernel
  rw [gap_map g] at ez er
  rw [h0, s0] at er
  rw [hc] at ez
  have f := fill_ok g.wa g.wb er ez
  refine ⟨⟨_, ez, sgn_in (fm_lo _) (fm_hi _)⟩, f.2, f.1, ?_⟩
  rw [← codes_len, ez, List.length_append, List.length_cons]
  omega
theorem fil_front {z x y : PySem.Str} (f : Fil z (codes x) []) (e : codes y = (codes z).take (z.length - 1)) : codes y = codes x := by
  obtain ⟨c, hz, _⟩ := f.ex
  have l := f.len
  rw [codes_len, List.length_nil] at l
  rw [e, hz, show z.length - 1 = (codes x).length by rw [codes_len]; omega, List.take_left' rfl]
end G
end
section
open PySem PySem.W PyProof.Rows PySem.Calls PySem.Spec
set_option Elab.async false
set_option maxHeartbeats 4000000
namespace G
open PySem.W.KStt (codes)
section
variable {prog : Program} {w : World} {A : Around} {E : Value → Shared → Prop} {s : Shared} {x y : PySem.Str} {t u : Tok} {Q : Value → Shared → Prop}
theorem step_ne_yes (e : ¬ codes x = codes y) (h : Q (.bool true) s) : wpAny (model prog w) A (compareOp .NotEq (.str x t) (.str y u)) Q E s := step_neT (by rw [decide_eq_false e]; exact h)
theorem step_eq_no (e : ¬ codes x = codes y) (h : Q (.bool false) s) : wpAny (model prog w) A (compareOp .Eq (.str x t) (.str y u)) Q E s := step_eqT (by rw [decide_eq_false e]; exact h)
theorem step_modO {z : PySem.Str} {p q h k : Int} (l : LD (codes z) p q h) (o : Oth z x k) (hl : x.length ≤ 36) (hn : ¬ plF x = 0) (hQ : (wlF z = 0 ↔ k + 1 = mw x) → Q (.int (wlF z) s.toks) { s with toks := s.toks + 1 }) :
    wpAny (model prog w) A (binaryOp .Mod (.int q t) (.int 37 u)) Q E s :=
  step_mod_is (ld_wl l) (hQ (oth_wl o hl hn))
theorem step_mul40 {n : Nat} {i : Int} (hk : x.length = n) (hx : n ≤ 16) (hlo : -(2 ^ 63 : Int) ≤ i) (hhi : i ≤ ((1048576 : Nat) : Int)) (hw : IsW x)
    (hb : i ≤ 40) (h : ∀ (z : PySem.Str) t' k, IsW z → z.length ≤ n * 40 → Q (.str z t') { s with toks := k }) :
    wpAny (model prog w) A (binaryOp .Mult (.str x t) (.int i u)) Q E s :=
  KXi.mul hk hx hlo hhi fun t' k a b => h _ t' k (isW_mul hw i) (by
    by_cases q : i < 0
    · rw [a q]; omega
    · have e := b (by omega)
      have m : (n : Int) * i ≤ (n : Int) * 40 := Int.mul_le_mul_of_nonneg_left hb (Int.natCast_nonneg n)
      omega)
end
theorem oth_ofS {x a y b z : PySem.Str} {c : Nat} {j k n : Int} (e2 : codes z = codes y ++ codes b) (e1 : codes y = codes a ++ codes (signS n)) (ea : codes a = (codes x).take j.toNat) (eb : codes b = (codes x).drop k.toNat) (hc : (codes x)[j.toNat]? = some (c : Int))
    (hn : n = num c - plF x) (wx : IsW x) (hk : k = j + 1) (h0 : 0 ≤ j) : Oth z x j := by
  refine oth_of (c2 := (sgn (Int.fmod n 37)).toNat) e2 ?_ ea eb hc ?_ wx hk h0
  · exact e1
  · rw [Int.toNat_of_nonneg (sgn_nn _ (sgn_in (fm_lo n) (fm_hi n))), hn, show num (c : Int) - plF x = num (c : Int) + (0 - plF x) by omega]
theorem oth_eq {z z' x : PySem.Str} {k k' : Int} (o : Oth z x k) (o' : Oth z' x k') (e : k = k') : codes z = codes z' := by
  obtain ⟨a, b, c, hx, hz, hk, _⟩ := o.ex
  obtain ⟨a', b', c', hx', hz', hk', _⟩ := o'.ex
  have el : a.length = a'.length := by omega
  rw [hx] at hx'
  obtain ⟨e1, e2⟩ := List.append_inj hx' el
  injection e2 with e3 e4
  rw [hz, hz', e1, e3, e4]
/-- what the program itself mends to -/
structure OthM (z x : PySem.Str) : Prop where
  o : Oth z x (mw x - 1)
theorem othM_of {x a y b z : PySem.Str} {c : Nat} {j k n : Int} (e2 : codes z = codes y ++ codes b) (e1 : codes y = codes a ++ codes (signS n)) (ea : codes a = (codes x).take j.toNat) (eb : codes b = (codes x).drop k.toNat) (hc : (codes x)[j.toNat]? = some (c : Int))
    (hn : n = num c - plF x) (wx : IsW x) (hj : j = mw x - 1) (hk : k = j + 1) (h0 : 0 ≤ j) : OthM z x :=
  ⟨hj ▸ oth_ofS e2 e1 ea eb hc hn wx hk h0⟩
theorem othM_eq {z z' x : PySem.Str} {k : Int} (m : OthM z x) (o : Oth z' x k) (e : k + 1 = mw x) : z' = z := codes_inj (oth_eq o m.o (by omega))
/-- the place that the loads tell, at hand -/
structure MwK (x : PySem.Str) : Prop where
  lo : 0 ≤ mw x
def NotYetOf {x : PySem.Str} (_ : MwK x) (pre : List Int) : Prop := NotYet x pre
theorem notyetO0 {x : PySem.Str} {m : MwK x} : NotYetOf m [] := notyet0
theorem notyetO1 {x : PySem.Str} {m : MwK x} {pre : List Int} {k : Int} (h : NotYetOf m pre) (hk : k = 0 + (pre.length : Int)) (n : ¬ k + 1 = mw x) : NotYetOf m (pre ++ [k]) := notyet1 h hk n
theorem notyet_all {x : PySem.Str} {m : MwK x} {a : Int} {n : Nat} (h : NotYetOf m (PySem.W.rangeKs a n)) : ¬ (1 ≤ mw x ∧ mw x ≤ n) := by
  have := NotYet.no h
  rw [PySem.W.rangeKs_length] at this
  exact this
section
variable {prog : Program} {w : World} {A : Around} {E : Value → Shared → Prop} {s : Shared} {Q : Value → Shared → Prop} {t u : Tok}
theorem step_weightK {x : PySem.Str} (h : MwK x → 0 ≤ mw x → mw x < 37 → (plF x = 0 → mw x = 0) → Q (.int (mw x) s.toks) { s with toks := s.toks + 1 }) : wpAny (model prog w) A (binaryOp .Mod (.int (wlF x * turn (plF x)) t) (.int 37 u)) Q E s :=
  step_weight (h ⟨mw_lo x⟩)
end
end G
end
section
open PySem PySem.W PyProof.Rows PySem.Calls PySem.Spec
set_option Elab.async false
set_option maxHeartbeats 4000000
namespace G
open PySem.W.KStt (codes)
section
variable {prog : Program} {w : World} {A : Around} {E : Value → Shared → Prop} {s : Shared} {value slice : PySem.Expr} {x : PySem.Str} {t u : Tok} {Q : Value → Shared → Prop}
theorem step_markM {i : Int} (h0 : 0 ≤ i) (h1 : i < 56) (h : ∀ c : Nat, Odd c → OddM c → (⟨#[c]⟩ : PySem.Str).length = 1 → Q (.str ⟨#[c]⟩ s.toks) { s with toks := s.toks + 1 })
    (hs : subscripted slice false (.str marks t) (.int i u) = operate [.str marks t, .int i u] (getItem (.str marks t) (.int i u)))
    (ht : ∀ r, letTemporaryGo value (.str marks t) r = pure ()) :
    wpAny (model prog w) A (subscriptTail value slice (.str marks t) (.int i u)) Q E s :=
  step_item (by rw [marks_len]; decide) h0 (by rw [marks_len]; exact h1) (fun c hc l => h c (odd_of marks_odd hc) ⟨(odd_of marks_odd hc).no, marks_gap _ (List.mem_of_getElem? hc)⟩ l) hs ht
theorem step_countO (g : GapO x) (h : Q (.int 1 s.toks) { s with toks := s.toks + 1 }) : wpAny (model prog w) A (PySem.call (.builtin "str.count") [.str x t, .str (PySem.Str.ofString ".") u]) Q E s :=
  SC.count (by rw [dot_eq, gapo_count g]; exact h)
end
theorem fil_to {z y x : PySem.Str} {j : Nat} (e : codes y = (codes z).take j) (f : Fil z ((codes x).take j) ((codes x).drop j)) (hj : j ≤ x.length) : codes y = (codes x).take j := by
  obtain ⟨c, hz, _⟩ := f.ex
  rw [e, hz, List.take_left' (by rw [List.length_take, codes_len]; omega)]
theorem fil_from {z y x : PySem.Str} {j k : Nat} (e : codes y = (codes z).drop k) (f : Fil z ((codes x).take j) ((codes x).drop j)) (hk : k = j + 1) (hj : j ≤ x.length) : codes y = (codes x).drop j := by
  obtain ⟨c, hz, _⟩ := f.ex
  rw [e, hz, hk, ← List.drop_drop, List.drop_left' (by rw [List.length_take, codes_len]; omega)]
  rfl
/-- one wrong sign is noticed -/
theorem one_noticed {z x : PySem.Str} {j : Nat} {a b : List Int} (o : One z x j) (f : Fil x a b) : ¬ wlF z = 0 := by
  obtain ⟨p, q, c, d, hx, hz, _, hne⟩ := o.ex
  have hc : c ∈ sgl := o.w.all c (by rw [hz]; simp)
  have hd : d ∈ sgl := f.w.all d (by rw [hx]; simp)
  have h0 := f.wl
  rw [wlF_eq] at h0 ⊢
  unfold wl at h0 ⊢
  rw [hx, List.map_append, List.map_cons] at h0
  rw [hz, List.map_append, List.map_cons]
  exact repl_noticed h0 (num_lo hd) (num_hi hd) (num_lo hc) (num_hi hc) fun e => hne (num_inj hc hd e.symm)
/-- two neighbours changed about -/
structure Swp (z x : PySem.Str) : Prop where
  ex : ∃ (a b : List Int) (c d : Int), codes x = a ++ c :: d :: b ∧ codes z = a ++ d :: c :: b ∧ c ≠ d
  w : IsW z
theorem two_at {l : List Int} {j : Nat} {c d : Int} (h0 : l[j]? = some c) (h1 : l[j + 1]? = some d) : l = l.take j ++ c :: d :: l.drop (j + 2) := by
  have a := (List.getElem?_eq_some_iff.mp h0)
  have b := (List.getElem?_eq_some_iff.mp h1)
  obtain ⟨la, ea⟩ := a
  obtain ⟨lb, eb⟩ := b
  have e := List.take_append_drop j l
  rw [List.drop_eq_getElem_cons la, ea, List.drop_eq_getElem_cons lb, eb] at e
  exact e.symm
theorem swp_of {x a y1 y2 b z : PySem.Str} {c d : Nat} {j i k : Int} (e3 : codes z = codes y2 ++ codes b) (e2 : codes y2 = codes y1 ++ codes ⟨#[c]⟩) (e1 : codes y1 = codes a ++ codes ⟨#[d]⟩) (ea : codes a = (codes x).take j.toNat) (eb : codes b = (codes x).drop k.toNat)
    (hc : (codes x)[j.toNat]? = some (c : Int)) (hd : (codes x)[i.toNat]? = some (d : Int)) (ne : ¬ codes ⟨#[c]⟩ = codes ⟨#[d]⟩) (wx : IsW x) (hi : i = j + 1) (hk : k = j + 2) (h0 : 0 ≤ j) : Swp z x := by
  have ei : i.toNat = j.toNat + 1 := by omega
  have ek : k.toNat = j.toNat + 2 := by omega
  rw [ei] at hd
  have hx := two_at hc hd
  have hz : codes z = (codes x).take j.toNat ++ (d : Int) :: (c : Int) :: (codes x).drop (j.toNat + 2) := by
    rw [e3, e2, e1, ea, eb, ek, codes_one, codes_one, List.append_assoc, List.append_assoc]; rfl
  refine ⟨⟨_, _, _, _, hx, hz, fun e => ne (by rw [codes_one, codes_one, e])⟩, ⟨fun q hq => ?_⟩⟩
  rw [hz] at hq
  rcases List.mem_append.mp hq with hq | hq
  · exact wx.all q (List.mem_of_mem_take hq)
  · rcases List.mem_cons.mp hq with rfl | hq
    · exact wx.all _ (List.mem_of_getElem? hd)
    · rcases List.mem_cons.mp hq with rfl | hq
      · exact wx.all _ (List.mem_of_getElem? hc)
      · exact wx.all q (List.mem_of_mem_drop hq)
theorem swp_noticed {z x : PySem.Str} {a b : List Int} (o : Swp z x) (f : Fil x a b) : ¬ wlF z = 0 := by
  obtain ⟨p, q, c, d, hx, hz, hne⟩ := o.ex
  have hc : c ∈ sgl := o.w.all c (by rw [hz]; simp)
  have hd : d ∈ sgl := o.w.all d (by rw [hz]; simp)
  have h0 := f.wl
  rw [wlF_eq] at h0 ⊢
  unfold wl at h0 ⊢
  rw [hx, List.map_append, List.map_cons, List.map_cons] at h0
  rw [hz, List.map_append, List.map_cons, List.map_cons]
  exact swap_noticed h0 (num_lo hc) (num_hi hc) (num_lo hd) (num_hi hd) fun e => hne (num_inj hc hd e)
end G
namespace G
theorem eqb_no {a : Int} (h : ¬ a = 0) : (a == 0) = false := beq_eq_false_iff_ne.mpr h
theorem eqb_yes {a : Int} (h : a = 0) : (a == 0) = true := by rw [h]; rfl
end G
end
section
open PySem PySem.W PyProof.Rows PySem.Calls PySem.Spec
set_option Elab.async false
set_option maxHeartbeats 4000000
namespace G
open PySem.W.KStt (codes)
/-! what a def promises whoever calls it: over any ledger, with room for D frames and U units more -/
def Cl (prog : Program) (w : World) (K : Frag) (p : Program) (loose : List PySem.Str) (mean : ExcName → Option Value) (mg mb : PySem.Str → Option Value)
    (f : Addr) (D U : Nat) (pre : Prop) (vs : List Value) (R : Tok → Value) : Prop :=
  ∀ (news : List (Addr × Obj)) (dp un : Nat) (gd : Option (List Code)) (cn : PySem.Str) (cs : Scope) (a : Addr) (ccd : Value) (cl : List (PySem.Str × Addr)) (outer : List Env) (A₀ : Around) (base h₀ : Heap) (L : Addr)
    (m : PySem.Str → Option Value) (s : Shared) (Q E : Value → Shared → Prop),
    Below A₀ base outer h₀ → Fr h₀ L s.heap m → K.In h₀ → News h₀ L s.heap news → Top p loose mean mg mb h₀ → cs.kind = .function → pre → dp + D < recursionLimit → un + U < cLine →
    (∀ (t : Tok) (h' : Heap) (tk' : Nat), Fr h₀ L h' m → News h₀ L h' news → Q (R t) { s with heap := h', toks := tk' }) →
    wpAny (model prog w) (ktrTop dp un gd cn cs L a ccd cl outer) (PySem.call (.ref f) vs) Q E s
section
variable {prog : Program} {w : World} {K : Frag} {p : Program} {loose : List PySem.Str} {mean : ExcName → Option Value} {mg mb : PySem.Str → Option Value} {f : Addr} {D U : Nat} {pre pre' : Prop} {vs : List Value} {R R' : Tok → Value}
theorem Cl.use (C : Cl prog w K p loose mean mg mb f D U pre vs R) {news : List (Addr × Obj)} {dp un : Nat} {gd : Option (List Code)} {cn : PySem.Str} {cs : Scope} {a : Addr} {ccd : Value} {cl : List (PySem.Str × Addr)} {outer : List Env} {A₀ : Around} {base h₀ : Heap} {L : Addr}
    {m : PySem.Str → Option Value} {s : Shared} {Q E : Value → Shared → Prop}
    (k1 : Below A₀ base outer h₀) (k2 : Fr h₀ L s.heap m) (k3 : K.In h₀) (k4 : News h₀ L s.heap news) (k5 : Top p loose mean mg mb h₀) (kK : cs.kind = .function) (kp : pre) (kd : dp + D < recursionLimit) (ku : un + U < cLine)
    (kR : ∀ (t : Tok) (h' : Heap) (tk' : Nat), Fr h₀ L h' m → News h₀ L h' news → Q (R t) { s with heap := h', toks := tk' }) :
    wpAny (model prog w) (ktrTop dp un gd cn cs L a ccd cl outer) (PySem.call (.ref f) vs) Q E s :=
  C _ _ _ _ _ _ _ _ _ _ _ _ _ _ _ _ _ _ k1 k2 k3 k4 k5 kK kp kd ku kR
theorem Cl.useTurn {n : Int} {tn : Tok} (C : Cl prog w K p loose mean mg mb f D U pre [.int n tn] (fun t => .int (turn n) t)) {news : List (Addr × Obj)} {dp un : Nat} {gd : Option (List Code)} {cn : PySem.Str} {cs : Scope} {a : Addr} {ccd : Value} {cl : List (PySem.Str × Addr)} {outer : List Env} {A₀ : Around} {base h₀ : Heap} {L : Addr}
    {m : PySem.Str → Option Value} {s : Shared} {Q E : Value → Shared → Prop}
    (k1 : Below A₀ base outer h₀) (k2 : Fr h₀ L s.heap m) (k3 : K.In h₀) (k4 : News h₀ L s.heap news) (k5 : Top p loose mean mg mb h₀) (kK : cs.kind = .function) (kp : pre) (kd : dp + D < recursionLimit) (ku : un + U < cLine)
    (kR : 0 ≤ turn n ∧ turn n ≤ 36 → ∀ (t : Tok) (h' : Heap) (tk' : Nat), Fr h₀ L h' m → News h₀ L h' news → Q (.int (turn n) t) { s with heap := h', toks := tk' }) :
    wpAny (model prog w) (ktrTop dp un gd cn cs L a ccd cl outer) (PySem.call (.ref f) [.int n tn]) Q E s :=
  C.use k1 k2 k3 k4 k5 kK kp kd ku (kR (turn_in n))
theorem Cl.as (C : Cl prog w K p loose mean mg mb f D U pre vs R) (h : pre' → pre) (e : pre' → R = R') : Cl prog w K p loose mean mg mb f D U pre' vs R' := by
  intro news dp un gd cn cs a ccd cl outer A₀ base h₀ L m s Q E k1 k2 k3 k4 k5 kK kp kd ku kR
  refine C.use k1 k2 k3 k4 k5 kK (h kp) kd ku ?_
  rw [e kp]
  exact kR
end
/-! the ends of is_sound -/
theorem sb1 {x : PySem.Str} (h : ¬ (x.length : Int) ≥ 2) : false = isSoundb x := sound1 (by omega)
theorem sb2 {x : PySem.Str} (h : ¬ (x.length : Int) ≤ 36) : false = isSoundb x := sound1 (by omega)
theorem sb3 {x : PySem.Str} (h : isWb x = false) : isWb x = isSoundb x := h.trans (sound2 h)
theorem beq0 {a : Int} : (a == 0) = decide (a = 0) := by
  by_cases h : a = 0
  · rw [decide_eq_true h, h]; rfl
  · rw [decide_eq_false h]; exact beq_eq_false_iff_ne.mpr h
theorem sb4 {x : PySem.Str} (h : (plF x == 0) = false) : (plF x == 0) = isSoundb x := h.trans (sound3 fun e => by rw [e] at h; exact absurd h (by decide))
theorem sb4' {x : PySem.Str} (h : ¬ plF x = 0) : (plF x == 0) = isSoundb x := (beq_eq_false_iff_ne.mpr h).trans (sound3 h)
theorem sb5 {x : PySem.Str} (h : isWb x = true) (h' : plF x = 0) (h0 : 2 ≤ x.length) (h1 : x.length ≤ 36) : (wlF x == 0) = isSoundb x := beq0.trans (sound4 h0 h1 h h')
theorem sb1' {x : PySem.Str} (h : ¬ (2 : Int) ≤ (x.length : Int)) : decide ((2 : Int) ≤ (x.length : Int)) = isSoundb x := (decide_eq_false h).trans (sound1 (by omega))
theorem sb2' {x : PySem.Str} (h : ¬ (x.length : Int) ≤ 36) : decide ((x.length : Int) ≤ 36) = isSoundb x := (decide_eq_false h).trans (sound1 (by omega))
/-! what mended asks where it mends -/
structure MOk (x : PySem.Str) : Prop where
  w : IsW x
  lo : 2 ≤ x.length
  hi : x.length ≤ 36
  bd : isSoundb x = false → 1 ≤ mw x ∧ mw x ≤ x.length
theorem MOk.wb {x : PySem.Str} (h : MOk x) : isWb x = true := isWb_yes h.w
theorem MOk.wok {x : PySem.Str} (h : MOk x) : WOk x := ⟨isWb_yes h.w, by have := h.hi; omega⟩
theorem mok_sound {x : PySem.Str} (h : isSoundb x = true) : MOk x := by
  have q := soundb_of h
  exact ⟨q.2.2.1, q.1, q.2.1, fun e => by rw [e] at h; cases h⟩
theorem mok_one {z x : PySem.Str} {j : Nat} (o : One z x j) (h : isSoundb x = true) : MOk z := by
  have q := soundb_of h
  have l := o.len
  have m := one_mend o h
  obtain ⟨a, b, c, d, hx, hz, hj, hne⟩ := o.ex
  have lz := codes_len z
  rw [hz, List.length_append, List.length_cons] at lz
  refine ⟨o.w, by omega, by omega, fun _ => ?_⟩
  have e : mw z = (j : Int) + 1 := m.2.1
  omega
theorem mok_dbl {x : PySem.Str} (h : IsW x) (hn : x.length ≤ 34) : MOk (dblS x) := mok_sound (dbl_sound h hn)
section
variable {prog : Program} {w : World} {A : Around} {E : Value → Shared → Prop} {s : Shared} {Q : Value → Shared → Prop} {t u : Tok}
theorem step_eqi_no {x y : Int} (e : ¬ x = y) (h : Q (.bool false) s) : wpAny (model prog w) A (compareOp .Eq (.int x t) (.int y u)) Q E s :=
  PyProof.Rows.eq_int (by rw [beq_eq_false_iff_ne.mpr e]; exact h)
/-- the weight that the loads tell, in its bounds -/
theorem step_mw {x : PySem.Str} (o : MOk x) (hf : isSoundb x = false) (h : 1 ≤ mw x → mw x ≤ x.length → Q (.int (mw x) s.toks) { s with toks := s.toks + 1 }) : wpAny (model prog w) A (binaryOp .Mod (.int (wlF x * turn (plF x)) t) (.int 37 u)) Q E s :=
  PyProof.Rows.mod_int (by omega) (h (o.bd hf).1 (o.bd hf).2)
end
theorem mend_tree {x a b y z : PySem.Str} {c : Nat} {j k v : Int} (e' : codes z = codes y ++ codes b) (e : codes y = codes a ++ codes (signS v)) (ha : codes a = (codes x).take j.toNat) (hb : codes b = (codes x).drop k.toNat) (hc : (codes x)[j.toNat]? = some (c : Int))
    (h : isSoundb x = false) (hj : j = mw x - 1) (hk : k = mw x) (h0 : 0 < mw x) (hv : v = num c - plF x) : z = mendS x := mend_out2 h hj hk h0 ha hc hv e hb e'
theorem sound_yes {x : PySem.Str} (h : isSoundb x = true) : x.length ≤ 1000 := by have := (soundb_of h).2.1; omega
theorem one_len {z x : PySem.Str} {j : Nat} (o : One z x j) (h : isSoundb x = true) : z.length ≤ 1000 := by have := (soundb_of h).2.1; have := o.len; omega
/-- z is the sound text x with one sign made another -/
structure OneS (z x : PySem.Str) : Prop where
  o : ∃ j, One z x j
  s : isSoundb x = true
theorem oneS_of {z x : PySem.Str} {j : Nat} (o : One z x j) (s : isSoundb x = true) : OneS z x := ⟨⟨j, o⟩, s⟩
theorem OneS.mok {z x : PySem.Str} (h : OneS z x) : MOk z := by obtain ⟨⟨j, o⟩, s⟩ := h; exact mok_one o s
theorem OneS.mend {z x : PySem.Str} (h : OneS z x) : mendS z = x := by obtain ⟨⟨j, o⟩, s⟩ := h; exact (one_mend o s).2.2.1
theorem OneS.not {z x : PySem.Str} (h : OneS z x) : isSoundb z = false := by obtain ⟨⟨j, o⟩, s⟩ := h; exact (one_mend o s).1
theorem OneS.len {z x : PySem.Str} (h : OneS z x) : z.length ≤ 1000 := by obtain ⟨⟨j, o⟩, s⟩ := h; exact one_len o s
theorem mended_one {z x : PySem.Str} {j : Nat} (o : One z x j) (h : isSoundb x = true) : codes (mendS z) = codes x := by rw [(one_mend o h).2.2.1]
theorem Cl.useDbl {prog : Program} {w : World} {K : Frag} {p : Program} {loose : List PySem.Str} {mean : ExcName → Option Value} {mg mb : PySem.Str → Option Value} {f : Addr} {D U : Nat} {x : PySem.Str} {tx : Tok}
    (C : Cl prog w K p loose mean mg mb f D U (IsW x ∧ x.length ≤ 34) [.str x tx] (fun t => .str (dblS x) t)) {news : List (Addr × Obj)} {dp un : Nat} {gd : Option (List Code)} {cn : PySem.Str} {cs : Scope} {a : Addr} {ccd : Value} {cl : List (PySem.Str × Addr)} {outer : List Env} {A₀ : Around} {base h₀ : Heap} {L : Addr}
    {m : PySem.Str → Option Value} {s : Shared} {Q E : Value → Shared → Prop}
    (k1 : Below A₀ base outer h₀) (k2 : Fr h₀ L s.heap m) (k3 : K.In h₀) (k4 : News h₀ L s.heap news) (k5 : Top p loose mean mg mb h₀) (kK : cs.kind = .function) (kp : IsW x ∧ x.length ≤ 34) (kd : dp + D < recursionLimit) (ku : un + U < cLine)
    (kR : IsW (dblS x) → (dblS x).length = x.length + 2 → isSoundb (dblS x) = true → ∀ (t : Tok) (h' : Heap) (tk' : Nat), Fr h₀ L h' m → News h₀ L h' news → Q (.str (dblS x) t) { s with heap := h', toks := tk' }) :
    wpAny (model prog w) (ktrTop dp un gd cn cs L a ccd cl outer) (PySem.call (.ref f) [.str x tx]) Q E s :=
  C.use k1 k2 k3 k4 k5 kK kp kd ku (kR (isW_dblS kp.1) (len_dblS x) (dbl_sound kp.1 kp.2))
end G
end
section
open PySem PySem.W PyProof.Rows PySem.Calls PySem.Spec
set_option Elab.async false
set_option maxHeartbeats 4000000
namespace G
open PySem.W.KStt (codes)
/-! a promise that says of the answer what is known, where N tokens at least are out -/
def ClT (prog : Program) (w : World) (K : Frag) (p : Program) (loose : List PySem.Str) (mean : ExcName → Option Value) (mg mb : PySem.Str → Option Value)
    (f : Addr) (D U N : Nat) (pre : Prop) (vs : List Value) (P : PySem.Str → Prop) : Prop :=
  ∀ (news : List (Addr × Obj)) (dp un : Nat) (gd : Option (List Code)) (cn : PySem.Str) (cs : Scope) (a : Addr) (ccd : Value) (cl : List (PySem.Str × Addr)) (outer : List Env) (A₀ : Around) (base h₀ : Heap) (L : Addr)
    (m : PySem.Str → Option Value) (s : Shared) (Q E : Value → Shared → Prop),
    Below A₀ base outer h₀ → Fr h₀ L s.heap m → K.In h₀ → News h₀ L s.heap news → Top p loose mean mg mb h₀ → cs.kind = .function → Tk N s.toks → pre → dp + D < recursionLimit → un + U < cLine →
    (∀ (z : PySem.Str) (t : Tok) (h' : Heap) (tk' : Nat), P z → Fr h₀ L h' m → News h₀ L h' news → Q (.str z t) { s with heap := h', toks := tk' }) →
    wpAny (model prog w) (ktrTop dp un gd cn cs L a ccd cl outer) (PySem.call (.ref f) vs) Q E s
section
variable {prog : Program} {w : World} {K : Frag} {p : Program} {loose : List PySem.Str} {mean : ExcName → Option Value} {mg mb : PySem.Str → Option Value} {f : Addr} {D U N : Nat} {pre : Prop} {vs : List Value} {P : PySem.Str → Prop}
theorem ClT.use (C : ClT prog w K p loose mean mg mb f D U N pre vs P) {news : List (Addr × Obj)} {dp un : Nat} {gd : Option (List Code)} {cn : PySem.Str} {cs : Scope} {a : Addr} {ccd : Value} {cl : List (PySem.Str × Addr)} {outer : List Env} {A₀ : Around} {base h₀ : Heap} {L : Addr}
    {m : PySem.Str → Option Value} {s : Shared} {Q E : Value → Shared → Prop}
    (k1 : Below A₀ base outer h₀) (k2 : Fr h₀ L s.heap m) (k3 : K.In h₀) (k4 : News h₀ L s.heap news) (k5 : Top p loose mean mg mb h₀) (kK : cs.kind = .function) (kT : Tk N s.toks) (kp : pre) (kd : dp + D < recursionLimit) (ku : un + U < cLine)
    (kR : ∀ (z : PySem.Str) (t : Tok) (h' : Heap) (tk' : Nat), P z → Fr h₀ L h' m → News h₀ L h' news → Tk N tk' → Q (.str z t) { s with heap := h', toks := tk' }) :
    wpAny (model prog w) (ktrTop dp un gd cn cs L a ccd cl outer) (PySem.call (.ref f) vs) Q E s :=
  with_tk kT (C _ _ _ _ _ _ _ _ _ _ _ _ _ _ _ _ _ _ k1 k2 k3 k4 k5 kK kT kp kd ku (fun z t h' tk' a b c d => kR z t h' tk' a b c d))
theorem Cl.useT {R : Tok → Value} (C : Cl prog w K p loose mean mg mb f D U pre vs R) {news : List (Addr × Obj)} {dp un : Nat} {gd : Option (List Code)} {cn : PySem.Str} {cs : Scope} {a : Addr} {ccd : Value} {cl : List (PySem.Str × Addr)} {outer : List Env} {A₀ : Around} {base h₀ : Heap} {L : Addr}
    {m : PySem.Str → Option Value} {s : Shared} {Q E : Value → Shared → Prop}
    (k1 : Below A₀ base outer h₀) (k2 : Fr h₀ L s.heap m) (k3 : K.In h₀) (k4 : News h₀ L s.heap news) (k5 : Top p loose mean mg mb h₀) (kK : cs.kind = .function) (kT : Tk N s.toks) (kp : pre) (kd : dp + D < recursionLimit) (ku : un + U < cLine)
    (kR : ∀ (t : Tok) (h' : Heap) (tk' : Nat), Fr h₀ L h' m → News h₀ L h' news → Tk N tk' → Q (R t) { s with heap := h', toks := tk' }) :
    wpAny (model prog w) (ktrTop dp un gd cn cs L a ccd cl outer) (PySem.call (.ref f) vs) Q E s :=
  with_tk kT (C _ _ _ _ _ _ _ _ _ _ _ _ _ _ _ _ _ _ k1 k2 k3 k4 k5 kK kp kd ku (fun t h' tk' b c d => kR t h' tk' b c d))
theorem Cl.useTurnT {n : Int} {tn : Tok} (C : Cl prog w K p loose mean mg mb f D U pre [.int n tn] (fun t => .int (turn n) t)) {news : List (Addr × Obj)} {dp un : Nat} {gd : Option (List Code)} {cn : PySem.Str} {cs : Scope} {a : Addr} {ccd : Value} {cl : List (PySem.Str × Addr)} {outer : List Env} {A₀ : Around} {base h₀ : Heap} {L : Addr}
    {m : PySem.Str → Option Value} {s : Shared} {Q E : Value → Shared → Prop}
    (k1 : Below A₀ base outer h₀) (k2 : Fr h₀ L s.heap m) (k3 : K.In h₀) (k4 : News h₀ L s.heap news) (k5 : Top p loose mean mg mb h₀) (kK : cs.kind = .function) (kT : Tk N s.toks) (kp : pre) (kd : dp + D < recursionLimit) (ku : un + U < cLine)
    (kR : 0 ≤ turn n ∧ turn n ≤ 36 → ∀ (t : Tok) (h' : Heap) (tk' : Nat), Fr h₀ L h' m → News h₀ L h' news → Tk N tk' → Q (.int (turn n) t) { s with heap := h', toks := tk' }) :
    wpAny (model prog w) (ktrTop dp un gd cn cs L a ccd cl outer) (PySem.call (.ref f) [.int n tn]) Q E s :=
  C.useT k1 k2 k3 k4 k5 kK kT kp kd ku (kR (turn_in n))
end
theorem clt_end {h₀ h' : Heap} {L : Addr} {m : PySem.Str → Option Value} {news all : List (Addr × Obj)} {s : Shared} {Q : Value → Shared → Prop} {P : PySem.Str → Prop} {z : PySem.Str} {t : Tok} {tk' : Nat}
    (hret : ∀ (z : PySem.Str) (t : Tok) (h' : Heap) (tk' : Nat), P z → Fr h₀ L h' m → News h₀ L h' news → Q (.str z t) { s with heap := h', toks := tk' }) (p : P z) (F : Fr h₀ L h' m) (N : News h₀ L h' all) (hs : ∀ q ∈ news, q ∈ all) : Q (.str z t) { s with heap := h', toks := tk' } :=
  hret z t h' tk' p F (fun q hq => N q (hs q hq))
end G
end
section
open PySem PySem.W PyProof.Rows PySem.Calls PySem.Spec
set_option Elab.async false
set_option maxHeartbeats 4000000
namespace G
open PySem.W.KStt (codes)
theorem sndY {x : PySem.Str} (w : IsW x) (h0 : 2 ≤ x.length) (h1 : x.length ≤ 36) (p : plF x = 0) (q : wlF x = 0) : isSoundb x = true := by
  rw [← sound4 h0 h1 (isWb_yes w) p, decide_eq_true q]
theorem sndP {x : PySem.Str} (p : ¬ plF x = 0) : isSoundb x = false := (sound3 p).symm
theorem sndW {x : PySem.Str} (q : ¬ wlF x = 0) : isSoundb x = false := by
  unfold isSoundb
  rw [decide_eq_false q, Bool.and_false]
theorem sndO {x : PySem.Str} (o : HasOdd x) : isSoundb x = false := (sound2 (isWb_no o)).symm
theorem sndL {x : PySem.Str} (h : ¬ (2 ≤ x.length ∧ x.length ≤ 36)) : isSoundb x = false := (sound1 h).symm
theorem split_sound {M : Model} {A : Around} {E : Value → Shared → Prop} {s : Shared} {f : Addr} {x : PySem.Str} {t : Tok} {Q : Value → Shared → Prop}
    (h1 : plF x = 0 → wlF x = 0 → wpAny M A (PySem.call (.ref f) [.str x t]) Q E s) (h2 : plF x = 0 → ¬ wlF x = 0 → wpAny M A (PySem.call (.ref f) [.str x t]) Q E s) (h3 : ¬ plF x = 0 → wpAny M A (PySem.call (.ref f) [.str x t]) Q E s) :
    wpAny M A (PySem.call (.ref f) [.str x t]) Q E s := by
  by_cases p : plF x = 0
  · by_cases q : wlF x = 0
    · exact h1 p q
    · exact h2 p q
  · exact h3 p
/-! the ends of is_good -/
theorem gd2 {x : PySem.Str} (h : isWb x = false) : isWb x = isGoodb x := h.trans (good2 h)
theorem gd3 {x : PySem.Str} (h : ¬ codes x = codes (PySem.Str.ofString "")) (h' : isWb x = true) : (wlF x == 0) = isGoodb x := beq0.trans (good3 h h')
theorem gd1 {x : PySem.Str} (h : codes x = codes (PySem.Str.ofString "")) : (!decide (codes x = codes (PySem.Str.ofString ""))) = isGoodb x := by
  rw [← good1 h, decide_eq_true h]; rfl
theorem goodY {x : PySem.Str} {a b : List Int} (f : Fil x a b) : isGoodb x = true := by
  obtain ⟨c, hx, _⟩ := f.ex
  have h : ¬ codes x = codes (PySem.Str.ofString "") := by
    rw [codes_nil, hx]
    intro e
    have l := congrArg List.length e
    rw [List.length_append, List.length_cons, List.length_nil] at l
    omega
  rw [← good3 h (isWb_yes f.w), decide_eq_true f.wl]
theorem goodN {x : PySem.Str} (h : ¬ wlF x = 0) : isGoodb x = false := by
  unfold isGoodb
  rw [decide_eq_false h, Bool.and_false]
end G
end
section
open PySem PySem.W PyProof.Rows PySem.Calls PySem.Spec
set_option Elab.async false
set_option maxHeartbeats 4000000
namespace G
/-! the walk behind the top, with the count of tokens known: said by the names that the head itself laid -/
def TokOf {q : Program} {loose : List PySem.Str} {XP : (PySem.Str → Option Value) → Heap → Prop} {r : RowW} {d : DefRec} {kwd : List (PySem.Str × PySem.Expr)} {run : Value → List Value → Sem Value} {H : Prop} {K : Params → Frag} {as : List Addr} {e : ∀ P, as = (K P).map (·.1)}
    (_ : WalkO q loose XP (kHook K as e).says r d kwd run → H) (n t : Nat) : Prop :=
  WalkX q loose XP (X.obsZ as) (X.valZ K n t) r d kwd run
theorem bridge {q : Program} {loose : List PySem.Str} {XP : (PySem.Str → Option Value) → Heap → Prop} {r : RowW} {d : DefRec} {kwd : List (PySem.Str × PySem.Expr)} {run : Value → List Value → Sem Value} {K K' : Params → Frag} {as as' : List Addr} {n t : Nat}
    (h : WalkX q loose XP (X.obsZ as') (X.valZ K' n t) r d kwd run) (e : ∀ P, as = (K P).map (·.1)) (e' : ∀ P, as'.map (fun a => (K P).lookup a) = (K' P).map (fun p => some p.2)) :
    WalkX q loose XP (X.obsZ as) (X.valZ K n t) r d kwd run := by
  intro w s₀ s₁ mg mb g y
  refine h w s₀ s₁ mg mb g ?_
  have f := X.z_facts e y
  have k : Frag.In (K w.params) s₀.heap := f.2.1
  have m : as'.map s₀.heap.get? = as'.map (fun a => (K w.params).lookup a) := by
    refine List.map_congr_left fun a ha => ?_
    have hm : (K w.params).lookup a ∈ (K' w.params).map (fun p => some p.2) := by
      rw [← e' w.params]
      exact List.mem_map.mpr ⟨a, ha, rfl⟩
    obtain ⟨p, _, hp⟩ := List.mem_map.mp hm
    rw [← hp]
    exact k a p.2 hp.symm
  unfold X.obsZ X.valZ
  rw [m, e' w.params, f.2.2.1, f.2.2.2]
theorem execs_tk2 {M : Model} {A : Around} {s : Shared} {E : Value → Shared → Prop} {n : Nat} {st : Stmt} {rest : List Stmt} {env : Env} {Q : Flow → Shared → Prop} (hn : Tk n s.toks)
    (h : ∀ k, Tk n k → wpAny M A (exec st env) (fun f s' => Tk n s'.toks → (match f with | .next => wpAny M A (execs rest env) Q E s' | f => Q f s')) E { s with toks := k }) : wpAny M A (execs (st :: rest) env) Q E s :=
  execs_tk hn (h s.toks hn)
theorem step_gapN {prog : Program} {w : World} {A : Around} {E : Value → Shared → Prop} {s : Shared} {x : PySem.Str} {t : Tok} {Q : Value → Shared → Prop} {c : Nat} {u v : Nat} (hc : (c : Int) ∈ sgl) (hu : 0 < u) (huv : u < v) (hx : x.length ≤ 1000)
    (h : ∀ (z : PySem.Str) t' k, PySem.W.KStt.codes z = (PySem.W.KStt.codes x).map (fun d => if d = 46 then (c : Int) else d) → z.length = x.length → Q (.str z t') { s with toks := k }) :
    wpAny (model prog w) A (PySem.call (.builtin "str.replace") [.str x t, .str (PySem.Str.ofString ".") u, .str ⟨#[c]⟩ v]) Q E s :=
  step_gap hc (Nat.ne_of_gt hu) (Nat.ne_of_gt (Nat.lt_trans hu huv)) (Nat.ne_of_lt huv) hx h
theorem fil_front' {z x y : PySem.Str} (e : PySem.W.KStt.codes y = (PySem.W.KStt.codes z).take (z.length - (-(-1 : Int)).toNat)) (f : Fil z (PySem.W.KStt.codes x) []) : PySem.W.KStt.codes y = PySem.W.KStt.codes x :=
  fil_front f (by rw [e]; rfl)
theorem errAt_got {x C t : Addr} {h h₀ : Heap} {L : Addr} {news : List (Addr × Obj)} {vs : List Value} (g : Got news x t (.ref C) vs) (N : News h₀ L h news) : ErrAt x C h := by
  obtain ⟨oe, _, _, _, hm, _, hc, _⟩ := g
  exact ⟨oe, (N _ hm).1, hc⟩
theorem step_eqi_yes {prog : Program} {w : World} {A : Around} {E : Value → Shared → Prop} {s : Shared} {t u : Tok} {Q : Value → Shared → Prop} {x y : Int} (e : x = y) (h : Q (.bool true) s) : wpAny (model prog w) A (compareOp .Eq (.int x t) (.int y u)) Q E s :=
  PyProof.Rows.eq_int (by rw [e, beq_self_eq_true]; exact h)
open PySem.W.KStt (codes) in
theorem swp_of2 {x a y1 y2 b z : PySem.Str} {c d c3 d3 : Nat} {j i k : Int} (e3 : codes z = codes y2 ++ codes b) (e2 : codes y2 = codes y1 ++ codes ⟨#[c]⟩) (e1 : codes y1 = codes a ++ codes ⟨#[d]⟩) (ea : codes a = (codes x).take j.toNat) (eb : codes b = (codes x).drop k.toNat)
    (hc : (codes x)[j.toNat]? = some (c : Int)) (hd : (codes x)[i.toNat]? = some (d : Int)) (ne : ¬ codes ⟨#[c3]⟩ = codes ⟨#[d3]⟩) (hc3 : (codes x)[j.toNat]? = some (c3 : Int)) (hd3 : (codes x)[i.toNat]? = some (d3 : Int)) (wx : IsW x) (hi : i = j + 1) (hk : k = j + 2) (h0 : 0 ≤ j) : Swp z x := by
  have q1 : (c3 : Int) = (c : Int) := by
    rw [hc] at hc3
    exact (Option.some.inj hc3).symm
  have q2 : (d3 : Int) = (d : Int) := by
    rw [hd] at hd3
    exact (Option.some.inj hd3).symm
  refine swp_of e3 e2 e1 ea eb hc hd ?_ wx hi hk h0
  intro q
  apply ne
  rw [codes_one, codes_one, q1, q2]
  rwa [codes_one, codes_one] at q
open PySem.W.KStt (codes) in
theorem fil_to2 {z y y2 x : PySem.Str} {j : Nat} (e : codes y = (codes z).take j) (e2 : codes y2 = (codes x).take j) (f : Fil z ((codes x).take j) ((codes x).drop j)) (hj : j ≤ x.length) : codes y = codes y2 := (fil_to e f hj).trans e2.symm
open PySem.W.KStt (codes) in
theorem fil_from2 {z y y2 x : PySem.Str} {j k : Nat} (e : codes y = (codes z).drop k) (e2 : codes y2 = (codes x).drop j) (f : Fil z ((codes x).take j) ((codes x).drop j)) (hk : k = j + 1) (hj : j ≤ x.length) : codes y = codes y2 := (fil_from e f hk hj).trans e2.symm
def LenOf {x : PySem.Str} (_ : IsW x) : Nat := x.length
theorem spot_in {x : PySem.Str} {w : IsW x} {a b : Int} (hb : b = (x.length : Int) + 1) : 0 ≤ Int.fmod a b ∧ Int.fmod a b ≤ (LenOf w : Int) := by
  have p : 0 < b := by omega
  have h0 := Int.fmod_nonneg_of_pos a p
  have h1 := Int.fmod_lt_of_pos a p
  unfold LenOf
  omega
theorem way_in {a : Int} : 0 ≤ Int.fmod a 8 ∧ Int.fmod a 8 < 8 := ⟨Int.fmod_nonneg_of_pos a (by decide), Int.fmod_lt_of_pos a (by decide)⟩
theorem oth_in {a b : Int} (hb : 0 < b) : 0 ≤ Int.fmod a b := Int.fmod_nonneg_of_pos a hb
end G
end
section
open PySem PySem.W PyProof.Rows PySem.Calls PySem.Spec
set_option Elab.async false
set_option maxHeartbeats 4000000
namespace G
open PySem.W.KStt (codes)
theorem way5_in {a : Int} : 0 ≤ Int.fmod a 5 ∧ Int.fmod a 5 < 5 := ⟨Int.fmod_nonneg_of_pos a (by decide), Int.fmod_lt_of_pos a (by decide)⟩
/-- the weighed load of the text with one sign made fit: nought just at the place that the loads tell -/
theorem step_modO2 {prog : Program} {w : World} {A : Around} {E : Value → Shared → Prop} {s : Shared} {x z : PySem.Str} {t u : Tok} {Q : Value → Shared → Prop} {p q h k : Int} (l : LD (codes z) p q h) (o : Oth z x k) (hl : x.length ≤ 36) (hn : ¬ plF x = 0)
    (hA : k + 1 = mw x → 0 ≤ k → k < x.length → Q (.int 0 s.toks) { s with toks := s.toks + 1 }) (hB : ¬ k + 1 = mw x → ¬ wlF z = 0 → Q (.int (wlF z) s.toks) { s with toks := s.toks + 1 }) :
    wpAny (model prog w) A (binaryOp .Mod (.int q t) (.int 37 u)) Q E s := by
  have i := oth_wl o hl hn
  by_cases c : k + 1 = mw x
  · exact step_mod_is ((ld_wl l).trans (i.mpr c)) (hA c o.k0 o.k1)
  · exact step_mod_is (ld_wl l) (hB c fun e => c (i.mp e))
end G
end
section
open PySem PySem.W PyProof.Rows PySem.Calls PySem.Spec
set_option Elab.async false
set_option maxHeartbeats 4000000
namespace G
open PySem.W.KStt (codes)
/-! two texts in a pair, compared -/
theorem sgl_small : ∀ c ∈ sgl, c < 128 := by decide +kernel
theorem cps_small {x : PySem.Str} (h : IsW x) : ∀ c ∈ x.cps.toList, c < 128 := by
  intro c hc
  have := sgl_small _ (h.all _ (List.mem_map.mpr ⟨c, hc, rfl⟩))
  omega
theorem pair_ok {a b : PySem.Str} (ha : ∀ c ∈ a.cps.toList, c < 128) (hb : ∀ c ∈ b.cps.toList, c < 128) : SeqAt.shaped (.tuple [.str a, .str b]) = true := by
  have e : ∀ {x : PySem.Str}, (∀ c ∈ x.cps.toList, c < 128) → (x.cps.all (· < 0x110000)) = true := by
    intro x h
    rw [← Array.all_toList, List.all_eq_true]
    intro c hc
    have := h c hc
    exact decide_eq_true (by omega)
  have d : (PyData.tuple [.str a, .str b]).depth ≤ 64 := by simp [PyData.depth, PyData.depthAll]
  have c : (PyData.tuple [.str a, .str b]).canLay0 = true := by
    simp only [PyData.canLay0, PyData.canLayAll0, Bool.and_true]
    rw [Bool.and_eq_true]
    exact ⟨e ha, e hb⟩
  unfold SeqAt.shaped
  rw [c, decide_eq_true d]
  rfl
theorem empty_small : ∀ c ∈ (PySem.Str.ofString "").cps.toList, c < 128 := by decide +kernel
theorem pair_isW {x : PySem.Str} (h : IsW x) : SeqAt.shaped (.tuple [.str (PySem.Str.ofString ""), .str x]) = true := pair_ok empty_small (cps_small h)
/-- a part of the walk is being proved apart -/
structure Mark : Prop where
end G
end
section
open PySem PySem.W PyProof.Rows PySem.Calls PySem.Spec
set_option Elab.async false
set_option maxHeartbeats 4000000
namespace G
/-! the law's own rows, said by the name of its head -/
def bodyOf {q : Program} {loose : List PySem.Str} {XP : (PySem.Str → Option Value) → Heap → Prop} {r : RowW} {d : DefRec} {kwd : List (PySem.Str × PySem.Expr)} {run : Value → List Value → Sem Value} {H : Prop} {K : Params → Frag} {as : List Addr} {e : ∀ P, as = (K P).map (·.1)}
    (_ : WalkO q loose XP (kHook K as e).says r d kwd run → H) : List Stmt := d.body
theorem fr_line {h₀ h : Heap} {L : Addr} {m : PySem.Str → Option Value} {x : PySem.Str} {v : Value} (F : Fr h₀ L h m) (hm : m x = some v) : Fr h₀ L h (fun y => if y = x then some v else m y) := by
  have e : (fun y => if y = x then some v else m y) = m := by
    funext y
    by_cases h : y = x
    · rw [if_pos h, h, hm]
    · rw [if_neg h]
  rw [e]
  exact F
theorem news_nil {h₀ h : Heap} {L : Addr} : News h₀ L h [] := fun _ hp => nomatch hp
end G
end
section
local macro_rules | `(tactic| walk_at "call builtin:len cons nil") => `(tactic| (k_here; (with_reducible show wpAny _ _ (PySem.call (Value.builtin "len") [Value.str _ _]) _ _ _); (with_reducible refine' G.step_len ?k1 ?_); (case k1 => k_dflt (first | omega | exact G.WOk.big (by assumption) | (have kL' := G.lens2; omega)))))
local macro_rules | `(tactic| walk_at "binaryOp Add str str") => `(tactic| (k_here; (with_reducible refine' G.step_add ?k1 ?_); (case k1 => k_dflt (have kL' := G.lens2; omega)); intro z' t' k' ez' lz'))
local macro_rules | `(tactic| walk_at "subscriptTail") => `(tactic| (k_here; (with_reducible show wpAny _ _ (subscriptTail _ _ (Value.str _ _) (Value.int _ _)) _ _ _); (refine' G.step_item ?k0 ?k1 ?k2 ?_ ?k3 ?k4; (case k0 => k_dflt (have kL' := G.lens2; omega)); (case k1 => first | kxi_fact | exact G.fm_nn (by omega)); (case k2 => first | (have kL' := G.lens2; exact G.fm_lt (by omega) (by omega)) | kxi_fact); (case k3 => with_unfolding_all rfl); (case k4 => (intro _; with_unfolding_all rfl))); intro c' ec' lc'))
local macro_rules | `(tactic| walk_at "subscriptTail Name Constant str int") => `(tactic| (k_here; (with_reducible show wpAny _ _ (subscriptTail _ _ (Value.str _ _) (Value.int _ _)) _ _ _); (refine' G.step_item ?k0 ?k1 ?k2 ?_ ?k3 ?k4; (case k0 => k_dflt (have kL' := G.lens2; omega)); (case k1 => first | kxi_fact | exact G.fm_nn (by omega)); (case k2 => first | (have kL' := G.lens2; exact G.fm_lt (by omega) (by omega)) | kxi_fact); (case k3 => with_unfolding_all rfl); (case k4 => (intro _; with_unfolding_all rfl))); intro c' ec' lc'))
local macro_rules | `(tactic| walk_at "subscriptTail Name Name str int") => `(tactic| (k_here; (with_reducible show wpAny _ _ (subscriptTail _ _ (Value.str _ _) (Value.int _ _)) _ _ _); (refine' G.step_item ?k0 ?k1 ?k2 ?_ ?k3 ?k4; (case k0 => k_dflt (have kL' := G.lens2; omega)); (case k1 => first | kxi_fact | exact G.fm_nn (by omega)); (case k2 => first | (have kL' := G.lens2; exact G.fm_lt (by omega) (by omega)) | kxi_fact); (case k3 => with_unfolding_all rfl); (case k4 => (intro _; with_unfolding_all rfl))); intro c' ec' lc'))
local macro_rules | `(tactic| walk_at "subscriptTail Name UnaryOp str int") => `(tactic| (k_here; (with_reducible show wpAny _ _ (subscriptTail _ _ (Value.str _ _) (Value.int _ _)) _ _ _); (refine' G.step_item ?k0 ?k1 ?k2 ?_ ?k3 ?k4; (case k0 => k_dflt (have kL' := G.lens2; omega)); (case k1 => first | kxi_fact | exact G.fm_nn (by omega)); (case k2 => first | (have kL' := G.lens2; exact G.fm_lt (by omega) (by omega)) | kxi_fact); (case k3 => with_unfolding_all rfl); (case k4 => (intro _; with_unfolding_all rfl))); intro c' ec' lc'))
local macro_rules | `(tactic| walk_at "subscriptTail Name BinOp str int") => `(tactic| (k_here; (with_reducible show wpAny _ _ (subscriptTail _ _ (Value.str _ _) (Value.int _ _)) _ _ _); (refine' G.step_item ?k0 ?k1 ?k2 ?_ ?k3 ?k4; (case k0 => k_dflt (have kL' := G.lens2; omega)); (case k1 => first | kxi_fact | exact G.fm_nn (by omega)); (case k2 => first | (have kL' := G.lens2; exact G.fm_lt (by omega) (by omega)) | kxi_fact); (case k3 => with_unfolding_all rfl); (case k4 => (intro _; with_unfolding_all rfl))); intro c' ec' lc'))
local macro_rules | `(tactic| walk_at "subscriptTail") => `(tactic| (k_here; (with_reducible show wpAny _ _ (subscriptTail _ _ (Value.str _ _) (Value.int _ _)) _ _ _); (refine' G.step_back ?k0 ?k1 ?k2 ?_ ?k3 ?k4; (case k0 => k_dflt omega); (case k1 => k_dflt (first | omega | (have kL' := G.lens2; omega))); (case k2 => k_dflt omega); (case k3 => with_unfolding_all rfl); (case k4 => (intro _; with_unfolding_all rfl))); intro c' ec' lc'))
local macro_rules | `(tactic| walk_at "subscriptTail Name Constant str int") => `(tactic| (k_here; (with_reducible show wpAny _ _ (subscriptTail _ _ (Value.str _ _) (Value.int _ _)) _ _ _); (refine' G.step_back ?k0 ?k1 ?k2 ?_ ?k3 ?k4; (case k0 => k_dflt omega); (case k1 => k_dflt (first | omega | (have kL' := G.lens2; omega))); (case k2 => k_dflt omega); (case k3 => with_unfolding_all rfl); (case k4 => (intro _; with_unfolding_all rfl))); intro c' ec' lc'))
local macro_rules | `(tactic| walk_at "subscriptTail Name Name str int") => `(tactic| (k_here; (with_reducible show wpAny _ _ (subscriptTail _ _ (Value.str _ _) (Value.int _ _)) _ _ _); (refine' G.step_back ?k0 ?k1 ?k2 ?_ ?k3 ?k4; (case k0 => k_dflt omega); (case k1 => k_dflt (first | omega | (have kL' := G.lens2; omega))); (case k2 => k_dflt omega); (case k3 => with_unfolding_all rfl); (case k4 => (intro _; with_unfolding_all rfl))); intro c' ec' lc'))
local macro_rules | `(tactic| walk_at "subscriptTail Name UnaryOp str int") => `(tactic| (k_here; (with_reducible show wpAny _ _ (subscriptTail _ _ (Value.str _ _) (Value.int _ _)) _ _ _); (refine' G.step_back ?k0 ?k1 ?k2 ?_ ?k3 ?k4; (case k0 => k_dflt omega); (case k1 => k_dflt (first | omega | (have kL' := G.lens2; omega))); (case k2 => k_dflt omega); (case k3 => with_unfolding_all rfl); (case k4 => (intro _; with_unfolding_all rfl))); intro c' ec' lc'))
local macro_rules | `(tactic| walk_at "subscriptTail Name BinOp str int") => `(tactic| (k_here; (with_reducible show wpAny _ _ (subscriptTail _ _ (Value.str _ _) (Value.int _ _)) _ _ _); (refine' G.step_back ?k0 ?k1 ?k2 ?_ ?k3 ?k4; (case k0 => k_dflt omega); (case k1 => k_dflt (first | omega | (have kL' := G.lens2; omega))); (case k2 => k_dflt omega); (case k3 => with_unfolding_all rfl); (case k4 => (intro _; with_unfolding_all rfl))); intro c' ec' lc'))
local macro_rules | `(tactic| walk_at "subscriptTail") => `(tactic| (k_here; (with_reducible show wpAny _ _ (subscriptTail _ _ (Value.str (Str.ofString "0123456789abcdefghijklmnopqrstuvwxyz-") _) (Value.int _ _)) _ _ _); (refine' G.step_sign ?k1 ?k2 ?_ ?k3 ?k4; (case k1 => kxi_fact); (case k2 => kxi_fact); (case k3 => with_unfolding_all rfl); (case k4 => (intro _; with_unfolding_all rfl))); intro c' ec' ic' lc'))
local macro_rules | `(tactic| walk_at "subscriptTail Name BinOp str int") => `(tactic| (k_here; (with_reducible show wpAny _ _ (subscriptTail _ _ (Value.str (Str.ofString "0123456789abcdefghijklmnopqrstuvwxyz-") _) (Value.int _ _)) _ _ _); (refine' G.step_sign ?k1 ?k2 ?_ ?k3 ?k4; (case k1 => kxi_fact); (case k2 => kxi_fact); (case k3 => with_unfolding_all rfl); (case k4 => (intro _; with_unfolding_all rfl))); intro c' ec' ic' lc'))
local macro_rules | `(tactic| walk_at "subscriptTail Call") => `(tactic| (k_here; (with_reducible show wpAny _ _ (subscriptTail _ _ (Value.str (Str.ofString "0123456789abcdefghijklmnopqrstuvwxyz-") _) (Value.int _ _)) _ _ _); (refine' G.step_sign ?k1 ?k2 ?_ ?k3 ?k4; (case k1 => kxi_fact); (case k2 => kxi_fact); (case k3 => with_unfolding_all rfl); (case k4 => (intro _; with_unfolding_all rfl))); intro c' ec' ic' lc'))
local macro_rules | `(tactic| walk_at "subscriptTail") => `(tactic| (k_here; (with_reducible show wpAny _ _ (subscriptTail _ _ (Value.str (Str.ofString " !\"#$&'()*+,/:;<=>?@ABCDEFGHIJKLMNOPQRSTUVWXYZ[\\]^_`{|}~") _) (Value.int _ _)) _ _ _); (refine' G.step_mark ?k1 ?k2 ?_ ?k3 ?k4; (case k1 => kxi_fact); (case k2 => kxi_fact); (case k3 => with_unfolding_all rfl); (case k4 => (intro _; with_unfolding_all rfl))); intro c' oc' lc'))
local macro_rules | `(tactic| walk_at "subscriptTail Name BinOp str int") => `(tactic| (k_here; (with_reducible show wpAny _ _ (subscriptTail _ _ (Value.str (Str.ofString " !\"#$&'()*+,/:;<=>?@ABCDEFGHIJKLMNOPQRSTUVWXYZ[\\]^_`{|}~") _) (Value.int _ _)) _ _ _); (refine' G.step_mark ?k1 ?k2 ?_ ?k3 ?k4; (case k1 => kxi_fact); (case k2 => kxi_fact); (case k3 => with_unfolding_all rfl); (case k4 => (intro _; with_unfolding_all rfl))); intro c' oc' lc'))
local macro_rules | `(tactic| walk_at "subscriptTail") => `(tactic| (k_here; (with_reducible show wpAny _ _ (subscriptTail _ (Expr.Slice none (some _) none _) (Value.str _ _) (Value.ref _)) _ _ _); ((with_reducible rename Fr _ _ _ _ => F'); (with_reducible rename News _ _ _ _ => N')); (refine' G.step_to (s := ⟨_, _, _, _, _⟩) F' N' ?k1 ?k2 ?_ ?k3 ?k4; (case k1 => k_dflt (first | omega | (have kL' := G.lens2; omega))); (case k2 => first | kxi_fact | exact G.fm_nn (by omega)); (case k3 => with_unfolding_all rfl); (case k4 => (intro _; with_unfolding_all rfl))); (try clear F' N'); intro z' h' t' k' ez' lz' F' N'; (try (have wz' := G.isW_take (by assumption) ez'))))
local macro_rules | `(tactic| walk_at "subscriptTail Name Slice str ref") => `(tactic| (k_here; (with_reducible show wpAny _ _ (subscriptTail _ (Expr.Slice none (some _) none _) (Value.str _ _) (Value.ref _)) _ _ _); ((with_reducible rename Fr _ _ _ _ => F'); (with_reducible rename News _ _ _ _ => N')); (refine' G.step_to (s := ⟨_, _, _, _, _⟩) F' N' ?k1 ?k2 ?_ ?k3 ?k4; (case k1 => k_dflt (first | omega | (have kL' := G.lens2; omega))); (case k2 => first | kxi_fact | exact G.fm_nn (by omega)); (case k3 => with_unfolding_all rfl); (case k4 => (intro _; with_unfolding_all rfl))); (try clear F' N'); intro z' h' t' k' ez' lz' F' N'; (try (have wz' := G.isW_take (by assumption) ez'))))
local macro_rules | `(tactic| walk_at "subscriptTail BinOp") => `(tactic| (k_here; (with_reducible show wpAny _ _ (subscriptTail _ (Expr.Slice none (some _) none _) (Value.str _ _) (Value.ref _)) _ _ _); ((with_reducible rename Fr _ _ _ _ => F'); (with_reducible rename News _ _ _ _ => N')); (refine' G.step_to (s := ⟨_, _, _, _, _⟩) F' N' ?k1 ?k2 ?_ ?k3 ?k4; (case k1 => k_dflt (first | omega | (have kL' := G.lens2; omega))); (case k2 => first | kxi_fact | exact G.fm_nn (by omega)); (case k3 => with_unfolding_all rfl); (case k4 => (intro _; with_unfolding_all rfl))); (try clear F' N'); intro z' h' t' k' ez' lz' F' N'; (try (have wz' := G.isW_take (by assumption) ez'))))
local macro_rules | `(tactic| walk_at "subscriptTail") => `(tactic| (k_here; (with_reducible show wpAny _ _ (subscriptTail _ (Expr.Slice none (some _) none _) (Value.str _ _) (Value.ref _)) _ _ _); ((with_reducible rename Fr _ _ _ _ => F'); (with_reducible rename News _ _ _ _ => N')); (refine' G.step_butlast (s := ⟨_, _, _, _, _⟩) F' N' ?k1 ?k2 ?_ ?k3 ?k4; (case k1 => k_dflt (first | omega | (have kL' := G.lens2; omega))); (case k2 => k_dflt omega); (case k3 => with_unfolding_all rfl); (case k4 => (intro _; with_unfolding_all rfl))); (try clear F' N'); intro z' h' t' k' ez' lz' F' N'; (try (have wz' := G.isW_take (by assumption) ez'))))
local macro_rules | `(tactic| walk_at "subscriptTail Name Slice str ref") => `(tactic| (k_here; (with_reducible show wpAny _ _ (subscriptTail _ (Expr.Slice none (some _) none _) (Value.str _ _) (Value.ref _)) _ _ _); ((with_reducible rename Fr _ _ _ _ => F'); (with_reducible rename News _ _ _ _ => N')); (refine' G.step_butlast (s := ⟨_, _, _, _, _⟩) F' N' ?k1 ?k2 ?_ ?k3 ?k4; (case k1 => k_dflt (first | omega | (have kL' := G.lens2; omega))); (case k2 => k_dflt omega); (case k3 => with_unfolding_all rfl); (case k4 => (intro _; with_unfolding_all rfl))); (try clear F' N'); intro z' h' t' k' ez' lz' F' N'; (try (have wz' := G.isW_take (by assumption) ez'))))
local macro_rules | `(tactic| walk_at "subscriptTail BinOp") => `(tactic| (k_here; (with_reducible show wpAny _ _ (subscriptTail _ (Expr.Slice none (some _) none _) (Value.str _ _) (Value.ref _)) _ _ _); ((with_reducible rename Fr _ _ _ _ => F'); (with_reducible rename News _ _ _ _ => N')); (refine' G.step_butlast (s := ⟨_, _, _, _, _⟩) F' N' ?k1 ?k2 ?_ ?k3 ?k4; (case k1 => k_dflt (first | omega | (have kL' := G.lens2; omega))); (case k2 => k_dflt omega); (case k3 => with_unfolding_all rfl); (case k4 => (intro _; with_unfolding_all rfl))); (try clear F' N'); intro z' h' t' k' ez' lz' F' N'; (try (have wz' := G.isW_take (by assumption) ez'))))
local macro_rules | `(tactic| walk_at "subscriptTail") => `(tactic| (k_here; (with_reducible show wpAny _ _ (subscriptTail _ (Expr.Slice (some _) none none _) (Value.str _ _) (Value.ref _)) _ _ _); ((with_reducible rename Fr _ _ _ _ => F'); (with_reducible rename News _ _ _ _ => N')); (refine' G.step_from (s := ⟨_, _, _, _, _⟩) F' N' ?k1 ?k2 ?_ ?k3 ?k4; (case k1 => k_dflt (first | omega | (have kL' := G.lens2; omega))); (case k2 => first | kxi_fact | exact G.fm_nn (by omega)); (case k3 => with_unfolding_all rfl); (case k4 => (intro _; with_unfolding_all rfl))); (try clear F' N'); intro z' h' t' k' ez' lz' F' N'; (try (have wz' := G.isW_drop (by assumption) ez'))))
local macro_rules | `(tactic| walk_at "subscriptTail Name Slice str ref") => `(tactic| (k_here; (with_reducible show wpAny _ _ (subscriptTail _ (Expr.Slice (some _) none none _) (Value.str _ _) (Value.ref _)) _ _ _); ((with_reducible rename Fr _ _ _ _ => F'); (with_reducible rename News _ _ _ _ => N')); (refine' G.step_from (s := ⟨_, _, _, _, _⟩) F' N' ?k1 ?k2 ?_ ?k3 ?k4; (case k1 => k_dflt (first | omega | (have kL' := G.lens2; omega))); (case k2 => first | kxi_fact | exact G.fm_nn (by omega)); (case k3 => with_unfolding_all rfl); (case k4 => (intro _; with_unfolding_all rfl))); (try clear F' N'); intro z' h' t' k' ez' lz' F' N'; (try (have wz' := G.isW_drop (by assumption) ez'))))
local macro_rules | `(tactic| walk_at "subscriptTail BinOp") => `(tactic| (k_here; (with_reducible show wpAny _ _ (subscriptTail _ (Expr.Slice (some _) none none _) (Value.str _ _) (Value.ref _)) _ _ _); ((with_reducible rename Fr _ _ _ _ => F'); (with_reducible rename News _ _ _ _ => N')); (refine' G.step_from (s := ⟨_, _, _, _, _⟩) F' N' ?k1 ?k2 ?_ ?k3 ?k4; (case k1 => k_dflt (first | omega | (have kL' := G.lens2; omega))); (case k2 => first | kxi_fact | exact G.fm_nn (by omega)); (case k3 => with_unfolding_all rfl); (case k4 => (intro _; with_unfolding_all rfl))); (try clear F' N'); intro z' h' t' k' ez' lz' F' N'; (try (have wz' := G.isW_drop (by assumption) ez'))))
local macro_rules | `(tactic| walk_at "subscriptTail") => `(tactic| (k_here; (with_reducible show wpAny _ _ (subscriptTail _ (Expr.Slice (some _) none none _) (Value.str _ _) (Value.ref _)) _ _ _); ((with_reducible rename Fr _ _ _ _ => F'); (with_reducible rename News _ _ _ _ => N')); (refine' G.step_fromback (s := ⟨_, _, _, _, _⟩) F' N' ?k1 ?k2 ?_ ?k3 ?k4; (case k1 => k_dflt (first | omega | (have kL' := G.lens2; omega))); (case k2 => k_dflt omega); (case k3 => with_unfolding_all rfl); (case k4 => (intro _; with_unfolding_all rfl))); (try clear F' N'); intro z' h' t' k' ez' lz' F' N'; (try (have wz' := G.isW_drop (by assumption) ez'))))
local macro_rules | `(tactic| walk_at "subscriptTail Name Slice str ref") => `(tactic| (k_here; (with_reducible show wpAny _ _ (subscriptTail _ (Expr.Slice (some _) none none _) (Value.str _ _) (Value.ref _)) _ _ _); ((with_reducible rename Fr _ _ _ _ => F'); (with_reducible rename News _ _ _ _ => N')); (refine' G.step_fromback (s := ⟨_, _, _, _, _⟩) F' N' ?k1 ?k2 ?_ ?k3 ?k4; (case k1 => k_dflt (first | omega | (have kL' := G.lens2; omega))); (case k2 => k_dflt omega); (case k3 => with_unfolding_all rfl); (case k4 => (intro _; with_unfolding_all rfl))); (try clear F' N'); intro z' h' t' k' ez' lz' F' N'; (try (have wz' := G.isW_drop (by assumption) ez'))))
local macro_rules | `(tactic| walk_at "subscriptTail BinOp") => `(tactic| (k_here; (with_reducible show wpAny _ _ (subscriptTail _ (Expr.Slice (some _) none none _) (Value.str _ _) (Value.ref _)) _ _ _); ((with_reducible rename Fr _ _ _ _ => F'); (with_reducible rename News _ _ _ _ => N')); (refine' G.step_fromback (s := ⟨_, _, _, _, _⟩) F' N' ?k1 ?k2 ?_ ?k3 ?k4; (case k1 => k_dflt (first | omega | (have kL' := G.lens2; omega))); (case k2 => k_dflt omega); (case k3 => with_unfolding_all rfl); (case k4 => (intro _; with_unfolding_all rfl))); (try clear F' N'); intro z' h' t' k' ez' lz' F' N'; (try (have wz' := G.isW_drop (by assumption) ez'))))
local macro_rules | `(tactic| walk_at "compareOp NotIn str str") => `(tactic| (k_here; (first | (with_reducible refine' G.step_notin_no ?k1 ?_; (case k1 => first | assumption | exact G.sgl_turn' (by assumption) (by assumption))) | (with_reducible refine' G.step_notin ?_))))
local macro_rules | `(tactic| walk_at "compareOp In str str") => `(tactic| (k_here; (first | (with_reducible refine' G.step_in_yes ?k1 ?_; (case k1 => first | assumption | exact G.sgl_at' (by assumption) (by assumption))) | (with_reducible refine' G.step_in ?_))))
local macro_rules | `(tactic| walk_at "compareOp NotEq str str") => `(tactic| (k_here; (with_reducible refine' G.step_neT ?_)))
local macro_rules | `(tactic| walk_at "binaryOp Mult str int") => `(tactic| (k_here; (refine' G.step_mul ?k1 ?k2 ?k3 ?k4 ?k5 ?k6 ?_; (case k1 => kxi_len); (case k2 => decide); (case k3 => kxi_fact); (case k4 => kxi_fact); (case k5 => first | exact G.isW_0 | exact G.isW_0z); (case k6 => kxi_fact)); intro z' t' k' wz' lz'))
local macro_rules | `(tactic| walk_at "call builtin:str.index") => `(tactic| (k_here; (with_reducible show wpAny _ _ (PySem.call (Value.builtin "str.index") [Value.str _ _, Value.str _ _]) _ _ _); (refine' G.step_index ?k1 ?k2 ?_; (case k1 => with_unfolding_all rfl); (case k2 => first | assumption | exact G.sgl_w (by assumption) (by assumption) | exact G.sgl_turn' (by assumption) (by assumption) | exact G.sgl_at' (by assumption) (by assumption) | exact G.sgl_atB (by assumption) (by assumption) | exact G.sgl_is (by assumption) (by assumption) | exact G.sgl_due (by assumption) (by assumption) (by assumption))); intro n0' n1'))
local macro_rules | `(tactic| walk_at "eval ListComp") => `(tactic| (k_here; (with_reducible show wpAny _ _ (eval (Expr.ListComp _ [⟨Expr.Name _ _, Expr.Name _ _, _, _⟩] _ _) _) _ _ _); k_dflt (refine G.ListComp_text (by k_asm) (by rfl) (by decide) (by rfl) (by decide) (by rfl) ?_)))
local macro_rules | `(tactic| walk_at "eval ListComp") => `(tactic| (k_here; (with_reducible show wpAny _ _ (eval (Expr.ListComp _ [⟨Expr.Tuple _ _ _, _, _, _⟩] _ _) _) _ _ _); k_dflt (refine G.ListComp_enum (by k_asm) (by rfl) (by decide) (by rfl) (by decide) (by rfl) (by rfl) (by decide) ?_)))
local macro_rules | `(tactic| walk_at "TextSrc") => `(tactic| (k_here; (with_reducible show G.TextSrc _ _ _ _ _ _ _ (PySem.Expr.Compare _ _ _ _) _ _ _ _ _ _); (refine' G.TextSrc.intro ?ts0 ?ts1 ?ts2 ?ts3 ?_; (case ts0 => with_unfolding_all rfl); (case ts1 => k_asm); (case ts2 => k_asm); (case ts3 => k_dflt (first | omega | exact G.WOk.big (by assumption) | (have kL' := G.lens2; omega)))); intro g'; (refine' G.text_bools (fun c => decide ((c : Int) ∈ G.sgl)) (fun c' t' I' oI' C' oC' D' m' ys' h' tk' E' hC' hx' F' N' off' ne' hMark' => ?_) (fun ys' hys' => ?_)); (all_goals (try (simp only [LCg.Off3, and_true] at off'))); (all_goals (try dsimp only))))
local macro_rules | `(tactic| walk_at "TextSrc") => `(tactic| (k_here; (with_reducible show G.TextSrc _ _ _ _ _ _ _ (PySem.Expr.Call _ _ _ _) _ _ _ _ _ _); (refine' G.TextSrc.intro ?ts0 ?ts1 ?ts2 ?ts3 ?_; (case ts0 => with_unfolding_all rfl); (case ts1 => k_asm); (case ts2 => k_asm); (case ts3 => k_dflt (first | omega | exact G.WOk.big (by assumption) | (have kL' := G.lens2; omega)))); intro g'; (refine' G.text_ints (fun c => G.num (c : Int)) (fun c' t' I' oI' C' oC' D' m' ys' h' tk' E' hk' hC' hx' F' N' off' ne' hMark' => ?_) (fun ys' hys' => ?_)); (all_goals (try (simp only [LCg.Off3, and_true] at off'))); (all_goals (try dsimp only))))
local macro_rules | `(tactic| walk_at "CompEnd") => `(tactic| (refine' G.bEnd ?k1 ?k2 ?k3 ?k4; (case k1 => assumption); (case k2 => assumption); (case k3 => kcf_all); (case k4 => first | assumption | (simp only [LCg.Off3, and_true]; done) | (simp only [LCg.Off3, and_true]; assumption))))
local macro_rules | `(tactic| walk_at "call type:enumerate") => `(tactic| (k_here; (with_reducible show wpAny _ _ (PySem.call (Value.type "enumerate") [Value.str _ _]) _ _ _); (refine' G.call_enumC (fun i c => G.num (c : Int) * (Int.fmod (i : Int) 36 + 1)) ?en0 ?en1 ?en2 ?en3 ?_ ?_; (case en0 => with_unfolding_all rfl); (case en1 => k_asm); (case en2 => k_asm); (case en3 => k_dflt (first | omega | exact G.WOk.big (by assumption) | (have kL' := G.lens2; omega)))); (intro g'; (unfold G.EnumTurn); intro i' c' t' u' I' oI' T' oT' C' oC' D' m' ys' h' tk' E' hk' hi' hC' hx' hy' F' N' off' ne' hMark'; (try (simp only [LCg.Off3, and_true] at off'))); rotate_left; (intro g' ys' hys'; (try dsimp only)); rotate_right))
local macro_rules | `(tactic| walk_at "call type:enumerate cons nil") => `(tactic| (k_here; (with_reducible show wpAny _ _ (PySem.call (Value.type "enumerate") [Value.str _ _]) _ _ _); (refine' G.call_enumC (fun i c => G.num (c : Int) * (Int.fmod (i : Int) 36 + 1)) ?en0 ?en1 ?en2 ?en3 ?_ ?_; (case en0 => with_unfolding_all rfl); (case en1 => k_asm); (case en2 => k_asm); (case en3 => k_dflt (first | omega | exact G.WOk.big (by assumption) | (have kL' := G.lens2; omega)))); (intro g'; (unfold G.EnumTurn); intro i' c' t' u' I' oI' T' oT' C' oC' D' m' ys' h' tk' E' hk' hi' hC' hx' hy' F' N' off' ne' hMark'; (try (simp only [LCg.Off3, and_true] at off'))); rotate_left; (intro g' ys' hys'; (try dsimp only)); rotate_right))
local macro_rules | `(tactic| walk_at "exec For Name Name cons nil") => `(tactic| (k_of "_law_sign" => (k_here; (rename Fr _ _ _ _ => lF'); (with_unfolding_all refine' For_invVF lF' ?k1 ?k2 ?_; (case k1 => exact rfl); (case k2 => exact rfl); k_whole))))
local macro_rules | `(tactic| walk_at "call builtin:all") => `(tactic| (k_here; (with_reducible show wpAny _ _ (PySem.call (Value.builtin "all") [Value.ref _]) _ _ _); k_dflt (refine LSm.all_bools (by k_asm) (by k_asm) (by rfl) (by lsm_list) (by assumption) ?_); intro h' tk' F' N'))
local macro_rules | `(tactic| walk_at "InvEndN") => `(tactic| (k_dflt (first | (kst_close) | ksr_close)))
local macro_rules | `(tactic| walk_at "callWith ref") => `(tactic| (k_here; k_dflt (first | (refine' callWith_K ?k1 ?k2 ?_; (case k1 => k_asm); (case k2 => k_is); k_whole) | (refine' callWith_K0 ?k1 ?k2 ?_; (case k1 => exact Frag.In.keeps (by k_asm) (Fr.keep (by k_asm))); (case k2 => k_is); k_whole))))
local macro_rules | `(tactic| walk_at "execs nil") => `(tactic| (with_reducible refine PySem.wpAny_execs_nil ?_))
local macro_rules | `(tactic| walk_at "execs cons") => `(tactic| ((with_reducible refine PySem.wpAny_execs_cons ?_); try dsimp only))
local macro_rules | `(tactic| k_in) => `(tactic| first | exact Frag.In.keeps (by k_asm) (Fr.keep (by k_asm)) | (refine' Frag.In.keeps ?ki1 ?ki2; (case ki2 => exact Fr.keep (by k_asm)); (case ki1 => k_asm)))
local macro_rules | `(tactic| k_room) => `(tactic| ktr_room)
set_option maxRecDepth 100000 in
set_option maxHeartbeats 8000000 in
theorem cWord (w : World) (mean : ExcName → Option Value) (mg mb : PySem.Str → Option Value) (x : PySem.Str) (t : Tok) :
    G.Cl PySem.Challenge.rw_guardline_k08_whole_mended_or_not.row.prog w (hd08.heap_39 w.params) hd08.view_39 (looseW hd08.view_39 []) mean mg mb 82 1 8 (x.length ≤ 16777216) [.str x t] (fun _ => .bool (G.isWb x)) := by
  k_with "state" => (first | exact G.miss0 _ | exact G.miss1 (by assumption) (by first | assumption | omega) | trivial)
  k_with "tree" => (first | exact G.isWb_list _ | exact G.isWb_list' _ | exact G.signS_out (by assumption) | exact G.hitF (by assumption) (by omega) (by omega) | exact G.noneF (by assumption) | exact G.sb1' (by assumption) | exact G.sb2' (by assumption) | exact G.sb3 (by assumption) | exact G.sb4 (by assumption) | exact G.sb4' (by assumption) | exact G.sb5 (by assumption) (by assumption) (by omega) (by omega))
  w_top off
  k_fill
  unfold G.Cl
  intros
  rename_i hret
  try dsimp only at hret
  refine wpAny_call ?_
  k_dflt cell_enter
  k_steps
  all_goals cb_end hret
set_option maxRecDepth 100000 in
set_option maxHeartbeats 8000000 in
theorem cWordY (w : World) (mean : ExcName → Option Value) (mg mb : PySem.Str → Option Value) (x : PySem.Str) (t : Tok) :
    G.Cl PySem.Challenge.rw_guardline_k08_whole_mended_or_not.row.prog w (hd08.heap_39 w.params) hd08.view_39 (looseW hd08.view_39 []) mean mg mb 82 1 8 (G.IsW x ∧ x.length ≤ 16777216) [.str x t] (fun _ => .bool true) := by
  exact G.Cl.as (cWord w mean mg mb x t) (fun h => h.2) (fun h => by rw [G.isWb_yes h.1])
set_option maxRecDepth 100000 in
set_option maxHeartbeats 8000000 in
theorem cWordN (w : World) (mean : ExcName → Option Value) (mg mb : PySem.Str → Option Value) (x : PySem.Str) (t : Tok) :
    G.Cl PySem.Challenge.rw_guardline_k08_whole_mended_or_not.row.prog w (hd08.heap_39 w.params) hd08.view_39 (looseW hd08.view_39 []) mean mg mb 82 1 8 (G.HasOdd x ∧ x.length ≤ 16777216) [.str x t] (fun _ => .bool false) := by
  exact G.Cl.as (cWord w mean mg mb x t) (fun h => h.2) (fun h => by rw [G.isWb_no h.1])
set_option maxRecDepth 100000 in
set_option maxHeartbeats 8000000 in
theorem cPlain (w : World) (mean : ExcName → Option Value) (mg mb : PySem.Str → Option Value) (x : PySem.Str) (t : Tok) :
    G.Cl PySem.Challenge.rw_guardline_k08_whole_mended_or_not.row.prog w (hd08.heap_39 w.params) hd08.view_39 (looseW hd08.view_39 []) mean mg mb 108 1 8 (G.WOk x) [.str x t] (fun t => .int (G.plF x) t) := by
  w_top off
  k_fill
  unfold G.Cl
  intros
  rename_i hret
  try dsimp only at hret
  refine wpAny_call ?_
  k_dflt cell_enter
  k_steps
  all_goals cb_end hret
set_option maxRecDepth 100000 in
set_option maxHeartbeats 8000000 in
theorem cWeighed (w : World) (mean : ExcName → Option Value) (mg mb : PySem.Str → Option Value) (x : PySem.Str) (t : Tok) :
    G.Cl PySem.Challenge.rw_guardline_k08_whole_mended_or_not.row.prog w (hd08.heap_39 w.params) hd08.view_39 (looseW hd08.view_39 []) mean mg mb 113 1 8 (G.WOk x) [.str x t] (fun t => .int (G.wlF x) t) := by
  w_top off
  k_fill
  unfold G.Cl
  intros
  rename_i hret
  try dsimp only at hret
  refine wpAny_call ?_
  k_dflt cell_enter
  k_steps
  all_goals cb_end hret
set_option maxRecDepth 100000 in
set_option maxHeartbeats 8000000 in
theorem cSign (w : World) (mean : ExcName → Option Value) (mg mb : PySem.Str → Option Value) (n : Int) (t : Tok) :
    G.Cl PySem.Challenge.rw_guardline_k08_whole_mended_or_not.row.prog w (hd08.heap_39 w.params) hd08.view_39 (looseW hd08.view_39 []) mean mg mb 70 1 8 (True) [.int n t] (fun t => .str (G.signS n) t) := by
  w_top off
  k_fill
  unfold G.Cl
  intros
  rename_i hret
  try dsimp only at hret
  refine wpAny_call ?_
  k_dflt cell_enter
  k_steps
  all_goals cb_end hret
set_option maxRecDepth 100000 in
set_option maxHeartbeats 8000000 in
theorem cTurned (w : World) (mean : ExcName → Option Value) (mg mb : PySem.Str → Option Value) (n : Int) (t : Tok) :
    G.Cl PySem.Challenge.rw_guardline_k08_whole_mended_or_not.row.prog w (hd08.heap_39 w.params) hd08.view_39 (looseW hd08.view_39 []) mean mg mb 77 1 8 (True) [.int n t] (fun t => .int (G.turn n) t) := by
  k_with "exec For Name Call cons nil" => (k_of "candidate" => (k_here; (rename Fr _ _ _ _ => lF'); (with_unfolding_all refine' For_invVF lF' ?k1 ?k2 ?_; (case k1 => exact rfl); (case k2 => exact rfl); k_whole)))
  k_with "pyIter ref" => (k_of "candidate" => (rename Int => nn; k_search (fun pre => G.Miss nn pre)))
  w_top off
  k_fill
  unfold G.Cl
  intros
  rename_i hret
  try dsimp only at hret
  refine wpAny_call ?_
  k_dflt cell_enter
  k_steps
  all_goals cb_end hret
local macro_rules | `(tactic| walk_at "call ref") => `(tactic| (k_here; (with_reducible show wpAny _ _ (PySem.call (Value.ref 82) _) _ _ _); (k_dflt (refine' G.Cl.use (cWord _ _ _ _ _ _) ?c1 ?c2 ?c3 ?c4 ?c5 ?c6 ?c7 ?c8 ?c9 ?_; (case c7 => with_reducible ((first | omega | exact G.WOk.big (by assumption) | (have kL9 := G.lens2; omega)))); (case c2 => k_asm); (case c1 => k_asm); (case c3 => k_asm); (case c4 => k_asm); (case c5 => k_asm); (case c6 => first | exact rfl | assumption); (case c8 => ktr_room); (case c9 => ktr_units))); (intro t9 h9 tk9 F9 N9; (try dsimp only); (try k_fold))))
local macro_rules | `(tactic| walk_at "call ref") => `(tactic| (k_here; (with_reducible show wpAny _ _ (PySem.call (Value.ref 82) _) _ _ _); (k_dflt (refine' G.Cl.use (cWordN _ _ _ _ _ _) ?c1 ?c2 ?c3 ?c4 ?c5 ?c6 ?c7 ?c8 ?c9 ?_; (case c7 => with_reducible (exact ⟨by assumption, (by first | omega | (have kL9 := G.lens2; omega))⟩)); (case c2 => k_asm); (case c1 => k_asm); (case c3 => k_asm); (case c4 => k_asm); (case c5 => k_asm); (case c6 => first | exact rfl | assumption); (case c8 => ktr_room); (case c9 => ktr_units))); (intro t9 h9 tk9 F9 N9; (try dsimp only); (try k_fold))))
local macro_rules | `(tactic| walk_at "call ref") => `(tactic| (k_here; (with_reducible show wpAny _ _ (PySem.call (Value.ref 82) _) _ _ _); (k_dflt (refine' G.Cl.use (cWordY _ _ _ _ _ _) ?c1 ?c2 ?c3 ?c4 ?c5 ?c6 ?c7 ?c8 ?c9 ?_; (case c7 => with_reducible (first | exact ⟨by assumption, (by first | omega | (have kL9 := G.lens2; omega))⟩ | exact ⟨G.MOk.w (by assumption), by omega⟩ | exact ⟨G.DblOk.w (by assumption), by omega⟩)); (case c2 => k_asm); (case c1 => k_asm); (case c3 => k_asm); (case c4 => k_asm); (case c5 => k_asm); (case c6 => first | exact rfl | assumption); (case c8 => ktr_room); (case c9 => ktr_units))); (intro t9 h9 tk9 F9 N9; (try dsimp only); (try k_fold))))
local macro_rules | `(tactic| walk_at "call ref") => `(tactic| (k_here; (with_reducible show wpAny _ _ (PySem.call (Value.ref 108) _) _ _ _); (k_dflt (refine' G.Cl.use (cPlain _ _ _ _ _ _) ?c1 ?c2 ?c3 ?c4 ?c5 ?c6 ?c7 ?c8 ?c9 ?_; (case c7 => with_reducible (first | assumption | exact ⟨by assumption, (by first | omega | (have kL9 := G.lens2; omega))⟩ | exact G.wok_is (by assumption) (by first | omega | (have kL9 := G.lens2; omega)) | exact G.MOk.wok (by assumption) | exact G.wok_dbl (by assumption))); (case c2 => k_asm); (case c1 => k_asm); (case c3 => k_asm); (case c4 => k_asm); (case c5 => k_asm); (case c6 => first | exact rfl | assumption); (case c8 => ktr_room); (case c9 => ktr_units))); (intro t9 h9 tk9 F9 N9; (try dsimp only); (try k_fold))))
local macro_rules | `(tactic| walk_at "call ref") => `(tactic| (k_here; (with_reducible show wpAny _ _ (PySem.call (Value.ref 113) _) _ _ _); (k_dflt (refine' G.Cl.use (cWeighed _ _ _ _ _ _) ?c1 ?c2 ?c3 ?c4 ?c5 ?c6 ?c7 ?c8 ?c9 ?_; (case c7 => with_reducible (first | assumption | exact ⟨by assumption, (by first | omega | (have kL9 := G.lens2; omega))⟩ | exact G.wok_is (by assumption) (by first | omega | (have kL9 := G.lens2; omega)) | exact G.MOk.wok (by assumption) | exact G.wok_dbl (by assumption))); (case c2 => k_asm); (case c1 => k_asm); (case c3 => k_asm); (case c4 => k_asm); (case c5 => k_asm); (case c6 => first | exact rfl | assumption); (case c8 => ktr_room); (case c9 => ktr_units))); (intro t9 h9 tk9 F9 N9; (try dsimp only); (try k_fold))))
local macro_rules | `(tactic| walk_at "call ref") => `(tactic| (k_here; (with_reducible show wpAny _ _ (PySem.call (Value.ref 70) _) _ _ _); (k_dflt (refine' G.Cl.use (cSign _ _ _ _ _ _) ?c1 ?c2 ?c3 ?c4 ?c5 ?c6 ?c7 ?c8 ?c9 ?_; (case c7 => with_reducible (trivial)); (case c2 => k_asm); (case c1 => k_asm); (case c3 => k_asm); (case c4 => k_asm); (case c5 => k_asm); (case c6 => first | exact rfl | assumption); (case c8 => ktr_room); (case c9 => ktr_units))); (intro t9 h9 tk9 F9 N9; (try dsimp only); (try k_fold))))
local macro_rules | `(tactic| walk_at "call ref") => `(tactic| (k_here; (with_reducible show wpAny _ _ (PySem.call (Value.ref 77) _) _ _ _); (k_dflt (refine' G.Cl.useTurn (cTurned _ _ _ _ _ _) ?c1 ?c2 ?c3 ?c4 ?c5 ?c6 ?c7 ?c8 ?c9 ?_; (case c7 => with_reducible (trivial)); (case c2 => k_asm); (case c1 => k_asm); (case c3 => k_asm); (case c4 => k_asm); (case c5 => k_asm); (case c6 => first | exact rfl | assumption); (case c8 => ktr_room); (case c9 => ktr_units))); (intro bt9 t9 h9 tk9 F9 N9; (try dsimp only); (try k_fold))))
set_option maxRecDepth 100000 in
set_option maxHeartbeats 8000000 in
theorem cSound (w : World) (mean : ExcName → Option Value) (mg mb : PySem.Str → Option Value) (x : PySem.Str) (t : Tok) :
    G.Cl PySem.Challenge.rw_guardline_k08_whole_mended_or_not.row.prog w (hd08.heap_39 w.params) hd08.view_39 (looseW hd08.view_39 []) mean mg mb 134 4 40 (x.length ≤ 1000) [.str x t] (fun _ => .bool (G.isSoundb x)) := by
  w_top off
  k_fill
  unfold G.Cl
  intros
  rename_i hret
  try dsimp only at hret
  refine wpAny_call ?_
  k_dflt cell_enter
  k_steps
  all_goals cb_end hret
set_option maxRecDepth 100000 in
set_option maxHeartbeats 8000000 in
theorem cSoundY (w : World) (mean : ExcName → Option Value) (mg mb : PySem.Str → Option Value) (x : PySem.Str) (t : Tok) :
    G.Cl PySem.Challenge.rw_guardline_k08_whole_mended_or_not.row.prog w (hd08.heap_39 w.params) hd08.view_39 (looseW hd08.view_39 []) mean mg mb 134 4 40 (G.isSoundb x = true) [.str x t] (fun _ => .bool true) := by
  exact G.Cl.as (cSound w mean mg mb x t) (fun h => G.sound_yes h) (fun h => by rw [h])
set_option maxRecDepth 100000 in
set_option maxHeartbeats 8000000 in
theorem cSoundN (w : World) (mean : ExcName → Option Value) (mg mb : PySem.Str → Option Value) (z x : PySem.Str) (t : Tok) :
    G.Cl PySem.Challenge.rw_guardline_k08_whole_mended_or_not.row.prog w (hd08.heap_39 w.params) hd08.view_39 (looseW hd08.view_39 []) mean mg mb 134 4 40 (G.OneS z x) [.str z t] (fun _ => .bool false) := by
  exact G.Cl.as (cSound w mean mg mb z t) (fun h => h.len) (fun h => by rw [h.not])
set_option maxRecDepth 100000 in
set_option maxHeartbeats 8000000 in
theorem cSoundB (w : World) (mean : ExcName → Option Value) (mg mb : PySem.Str → Option Value) (x : PySem.Str) (b : Bool) (t : Tok) :
    G.Cl PySem.Challenge.rw_guardline_k08_whole_mended_or_not.row.prog w (hd08.heap_39 w.params) hd08.view_39 (looseW hd08.view_39 []) mean mg mb 134 4 40 (G.isSoundb x = b ∧ x.length ≤ 1000) [.str x t] (fun _ => .bool b) := by
  exact G.Cl.as (cSound w mean mg mb x t) (fun h => h.2) (fun h => by rw [h.1])
local macro_rules | `(tactic| walk_at "call ref") => `(tactic| (k_here; (with_reducible show wpAny _ _ (PySem.call (Value.ref 134) _) _ _ _); (k_dflt (refine' G.Cl.use (cSound _ _ _ _ _ _) ?c1 ?c2 ?c3 ?c4 ?c5 ?c6 ?c7 ?c8 ?c9 ?_; (case c7 => with_reducible (omega)); (case c2 => k_asm); (case c1 => k_asm); (case c3 => k_asm); (case c4 => k_asm); (case c5 => k_asm); (case c6 => first | exact rfl | assumption); (case c8 => ktr_room); (case c9 => ktr_units))); (intro t9 h9 tk9 F9 N9; (try dsimp only); (try k_fold))))
section
local macro_rules | `(tactic| walk_at "binaryOp Mod int int") => `(tactic| (k_here; (with_reducible show wpAny _ _ (binaryOp Operator.Mod (Value.int _ _) (Value.int 37 _)) _ _ _); (refine' G.step_mod_is ?e ?_; (case e => first | exact (G.dbl_ld (by assumption) (by omega)).1 | exact (G.dbl_ld (by assumption) (by omega)).2))))
local macro_rules | `(tactic| walk_at "binaryOp Add str str") => `(tactic| (k_here; (with_reducible refine' G.step_add ?k1 ?_); (case k1 => k_dflt (have kL' := G.lens2; (try simp only [G.len_signS]); omega)); intro z' t' k' ez' lz'; (try simp only [G.len_signS] at lz'); (try ((with_reducible have dz' := G.dblS_out' ez' (by assumption)); (have dy' := dz' (by k_dflt rfl) (by k_dflt rfl)); subst dy'; clear dz'))))
set_option maxRecDepth 100000 in
set_option maxHeartbeats 8000000 in
theorem cDoubly (w : World) (mean : ExcName → Option Value) (mg mb : PySem.Str → Option Value) (x : PySem.Str) (t : Tok) :
    G.Cl PySem.Challenge.rw_guardline_k08_whole_mended_or_not.row.prog w (hd08.heap_39 w.params) hd08.view_39 (looseW hd08.view_39 []) mean mg mb 120 4 40 (G.IsW x ∧ x.length ≤ 34) [.str x t] (fun t => .str (G.dblS x) t) := by
  w_top off
  k_fill
  unfold G.Cl
  intros
  rename_i hpre _ _ hret
  obtain ⟨hpw, hpl⟩ := hpre
  try dsimp only at hret
  refine wpAny_call ?_
  k_dflt cell_enter
  k_steps
  all_goals cb_end hret
end
end
section
local macro_rules | `(tactic| walk_at "call builtin:len cons nil") => `(tactic| (k_here; (with_reducible show wpAny _ _ (PySem.call (Value.builtin "len") [Value.str _ _]) _ _ _); (with_reducible refine' G.step_len ?k1 ?_); (case k1 => k_dflt (first | omega | exact G.WOk.big (by assumption) | (have kL' := G.lens2; omega)))))
local macro_rules | `(tactic| walk_at "binaryOp Add str str") => `(tactic| (k_here; (with_reducible refine' G.step_add ?k1 ?_); (case k1 => k_dflt (have kL' := G.lens2; omega)); intro z' t' k' ez' lz'))
local macro_rules | `(tactic| walk_at "subscriptTail") => `(tactic| (k_here; (with_reducible show wpAny _ _ (subscriptTail _ _ (Value.str _ _) (Value.int _ _)) _ _ _); (refine' G.step_item ?k0 ?k1 ?k2 ?_ ?k3 ?k4; (case k0 => k_dflt (have kL' := G.lens2; omega)); (case k1 => first | kxi_fact | exact G.fm_nn (by omega)); (case k2 => first | (have kL' := G.lens2; exact G.fm_lt (by omega) (by omega)) | kxi_fact); (case k3 => with_unfolding_all rfl); (case k4 => (intro _; with_unfolding_all rfl))); intro c' ec' lc'))
local macro_rules | `(tactic| walk_at "subscriptTail Name Constant str int") => `(tactic| (k_here; (with_reducible show wpAny _ _ (subscriptTail _ _ (Value.str _ _) (Value.int _ _)) _ _ _); (refine' G.step_item ?k0 ?k1 ?k2 ?_ ?k3 ?k4; (case k0 => k_dflt (have kL' := G.lens2; omega)); (case k1 => first | kxi_fact | exact G.fm_nn (by omega)); (case k2 => first | (have kL' := G.lens2; exact G.fm_lt (by omega) (by omega)) | kxi_fact); (case k3 => with_unfolding_all rfl); (case k4 => (intro _; with_unfolding_all rfl))); intro c' ec' lc'))
local macro_rules | `(tactic| walk_at "subscriptTail Name Name str int") => `(tactic| (k_here; (with_reducible show wpAny _ _ (subscriptTail _ _ (Value.str _ _) (Value.int _ _)) _ _ _); (refine' G.step_item ?k0 ?k1 ?k2 ?_ ?k3 ?k4; (case k0 => k_dflt (have kL' := G.lens2; omega)); (case k1 => first | kxi_fact | exact G.fm_nn (by omega)); (case k2 => first | (have kL' := G.lens2; exact G.fm_lt (by omega) (by omega)) | kxi_fact); (case k3 => with_unfolding_all rfl); (case k4 => (intro _; with_unfolding_all rfl))); intro c' ec' lc'))
local macro_rules | `(tactic| walk_at "subscriptTail Name UnaryOp str int") => `(tactic| (k_here; (with_reducible show wpAny _ _ (subscriptTail _ _ (Value.str _ _) (Value.int _ _)) _ _ _); (refine' G.step_item ?k0 ?k1 ?k2 ?_ ?k3 ?k4; (case k0 => k_dflt (have kL' := G.lens2; omega)); (case k1 => first | kxi_fact | exact G.fm_nn (by omega)); (case k2 => first | (have kL' := G.lens2; exact G.fm_lt (by omega) (by omega)) | kxi_fact); (case k3 => with_unfolding_all rfl); (case k4 => (intro _; with_unfolding_all rfl))); intro c' ec' lc'))
local macro_rules | `(tactic| walk_at "subscriptTail Name BinOp str int") => `(tactic| (k_here; (with_reducible show wpAny _ _ (subscriptTail _ _ (Value.str _ _) (Value.int _ _)) _ _ _); (refine' G.step_item ?k0 ?k1 ?k2 ?_ ?k3 ?k4; (case k0 => k_dflt (have kL' := G.lens2; omega)); (case k1 => first | kxi_fact | exact G.fm_nn (by omega)); (case k2 => first | (have kL' := G.lens2; exact G.fm_lt (by omega) (by omega)) | kxi_fact); (case k3 => with_unfolding_all rfl); (case k4 => (intro _; with_unfolding_all rfl))); intro c' ec' lc'))
local macro_rules | `(tactic| walk_at "subscriptTail") => `(tactic| (k_here; (with_reducible show wpAny _ _ (subscriptTail _ _ (Value.str _ _) (Value.int _ _)) _ _ _); (refine' G.step_back ?k0 ?k1 ?k2 ?_ ?k3 ?k4; (case k0 => k_dflt omega); (case k1 => k_dflt (first | omega | (have kL' := G.lens2; omega))); (case k2 => k_dflt omega); (case k3 => with_unfolding_all rfl); (case k4 => (intro _; with_unfolding_all rfl))); intro c' ec' lc'))
local macro_rules | `(tactic| walk_at "subscriptTail Name Constant str int") => `(tactic| (k_here; (with_reducible show wpAny _ _ (subscriptTail _ _ (Value.str _ _) (Value.int _ _)) _ _ _); (refine' G.step_back ?k0 ?k1 ?k2 ?_ ?k3 ?k4; (case k0 => k_dflt omega); (case k1 => k_dflt (first | omega | (have kL' := G.lens2; omega))); (case k2 => k_dflt omega); (case k3 => with_unfolding_all rfl); (case k4 => (intro _; with_unfolding_all rfl))); intro c' ec' lc'))
local macro_rules | `(tactic| walk_at "subscriptTail Name Name str int") => `(tactic| (k_here; (with_reducible show wpAny _ _ (subscriptTail _ _ (Value.str _ _) (Value.int _ _)) _ _ _); (refine' G.step_back ?k0 ?k1 ?k2 ?_ ?k3 ?k4; (case k0 => k_dflt omega); (case k1 => k_dflt (first | omega | (have kL' := G.lens2; omega))); (case k2 => k_dflt omega); (case k3 => with_unfolding_all rfl); (case k4 => (intro _; with_unfolding_all rfl))); intro c' ec' lc'))
local macro_rules | `(tactic| walk_at "subscriptTail Name UnaryOp str int") => `(tactic| (k_here; (with_reducible show wpAny _ _ (subscriptTail _ _ (Value.str _ _) (Value.int _ _)) _ _ _); (refine' G.step_back ?k0 ?k1 ?k2 ?_ ?k3 ?k4; (case k0 => k_dflt omega); (case k1 => k_dflt (first | omega | (have kL' := G.lens2; omega))); (case k2 => k_dflt omega); (case k3 => with_unfolding_all rfl); (case k4 => (intro _; with_unfolding_all rfl))); intro c' ec' lc'))
local macro_rules | `(tactic| walk_at "subscriptTail Name BinOp str int") => `(tactic| (k_here; (with_reducible show wpAny _ _ (subscriptTail _ _ (Value.str _ _) (Value.int _ _)) _ _ _); (refine' G.step_back ?k0 ?k1 ?k2 ?_ ?k3 ?k4; (case k0 => k_dflt omega); (case k1 => k_dflt (first | omega | (have kL' := G.lens2; omega))); (case k2 => k_dflt omega); (case k3 => with_unfolding_all rfl); (case k4 => (intro _; with_unfolding_all rfl))); intro c' ec' lc'))
local macro_rules | `(tactic| walk_at "subscriptTail") => `(tactic| (k_here; (with_reducible show wpAny _ _ (subscriptTail _ _ (Value.str (Str.ofString "0123456789abcdefghijklmnopqrstuvwxyz-") _) (Value.int _ _)) _ _ _); (refine' G.step_sign ?k1 ?k2 ?_ ?k3 ?k4; (case k1 => kxi_fact); (case k2 => kxi_fact); (case k3 => with_unfolding_all rfl); (case k4 => (intro _; with_unfolding_all rfl))); intro c' ec' ic' lc'))
local macro_rules | `(tactic| walk_at "subscriptTail Name BinOp str int") => `(tactic| (k_here; (with_reducible show wpAny _ _ (subscriptTail _ _ (Value.str (Str.ofString "0123456789abcdefghijklmnopqrstuvwxyz-") _) (Value.int _ _)) _ _ _); (refine' G.step_sign ?k1 ?k2 ?_ ?k3 ?k4; (case k1 => kxi_fact); (case k2 => kxi_fact); (case k3 => with_unfolding_all rfl); (case k4 => (intro _; with_unfolding_all rfl))); intro c' ec' ic' lc'))
local macro_rules | `(tactic| walk_at "subscriptTail Call") => `(tactic| (k_here; (with_reducible show wpAny _ _ (subscriptTail _ _ (Value.str (Str.ofString "0123456789abcdefghijklmnopqrstuvwxyz-") _) (Value.int _ _)) _ _ _); (refine' G.step_sign ?k1 ?k2 ?_ ?k3 ?k4; (case k1 => kxi_fact); (case k2 => kxi_fact); (case k3 => with_unfolding_all rfl); (case k4 => (intro _; with_unfolding_all rfl))); intro c' ec' ic' lc'))
local macro_rules | `(tactic| walk_at "subscriptTail") => `(tactic| (k_here; (with_reducible show wpAny _ _ (subscriptTail _ _ (Value.str (Str.ofString " !\"#$&'()*+,/:;<=>?@ABCDEFGHIJKLMNOPQRSTUVWXYZ[\\]^_`{|}~") _) (Value.int _ _)) _ _ _); (refine' G.step_mark ?k1 ?k2 ?_ ?k3 ?k4; (case k1 => kxi_fact); (case k2 => kxi_fact); (case k3 => with_unfolding_all rfl); (case k4 => (intro _; with_unfolding_all rfl))); intro c' oc' lc'))
local macro_rules | `(tactic| walk_at "subscriptTail Name BinOp str int") => `(tactic| (k_here; (with_reducible show wpAny _ _ (subscriptTail _ _ (Value.str (Str.ofString " !\"#$&'()*+,/:;<=>?@ABCDEFGHIJKLMNOPQRSTUVWXYZ[\\]^_`{|}~") _) (Value.int _ _)) _ _ _); (refine' G.step_mark ?k1 ?k2 ?_ ?k3 ?k4; (case k1 => kxi_fact); (case k2 => kxi_fact); (case k3 => with_unfolding_all rfl); (case k4 => (intro _; with_unfolding_all rfl))); intro c' oc' lc'))
local macro_rules | `(tactic| walk_at "subscriptTail") => `(tactic| (k_here; (with_reducible show wpAny _ _ (subscriptTail _ (Expr.Slice none (some _) none _) (Value.str _ _) (Value.ref _)) _ _ _); ((with_reducible rename Fr _ _ _ _ => F'); (with_reducible rename News _ _ _ _ => N')); (refine' G.step_to (s := ⟨_, _, _, _, _⟩) F' N' ?k1 ?k2 ?_ ?k3 ?k4; (case k1 => k_dflt (first | omega | (have kL' := G.lens2; omega))); (case k2 => first | kxi_fact | exact G.fm_nn (by omega)); (case k3 => with_unfolding_all rfl); (case k4 => (intro _; with_unfolding_all rfl))); (try clear F' N'); intro z' h' t' k' ez' lz' F' N'; (try (have wz' := G.isW_take (by assumption) ez'))))
local macro_rules | `(tactic| walk_at "subscriptTail Name Slice str ref") => `(tactic| (k_here; (with_reducible show wpAny _ _ (subscriptTail _ (Expr.Slice none (some _) none _) (Value.str _ _) (Value.ref _)) _ _ _); ((with_reducible rename Fr _ _ _ _ => F'); (with_reducible rename News _ _ _ _ => N')); (refine' G.step_to (s := ⟨_, _, _, _, _⟩) F' N' ?k1 ?k2 ?_ ?k3 ?k4; (case k1 => k_dflt (first | omega | (have kL' := G.lens2; omega))); (case k2 => first | kxi_fact | exact G.fm_nn (by omega)); (case k3 => with_unfolding_all rfl); (case k4 => (intro _; with_unfolding_all rfl))); (try clear F' N'); intro z' h' t' k' ez' lz' F' N'; (try (have wz' := G.isW_take (by assumption) ez'))))
local macro_rules | `(tactic| walk_at "subscriptTail BinOp") => `(tactic| (k_here; (with_reducible show wpAny _ _ (subscriptTail _ (Expr.Slice none (some _) none _) (Value.str _ _) (Value.ref _)) _ _ _); ((with_reducible rename Fr _ _ _ _ => F'); (with_reducible rename News _ _ _ _ => N')); (refine' G.step_to (s := ⟨_, _, _, _, _⟩) F' N' ?k1 ?k2 ?_ ?k3 ?k4; (case k1 => k_dflt (first | omega | (have kL' := G.lens2; omega))); (case k2 => first | kxi_fact | exact G.fm_nn (by omega)); (case k3 => with_unfolding_all rfl); (case k4 => (intro _; with_unfolding_all rfl))); (try clear F' N'); intro z' h' t' k' ez' lz' F' N'; (try (have wz' := G.isW_take (by assumption) ez'))))
local macro_rules | `(tactic| walk_at "subscriptTail") => `(tactic| (k_here; (with_reducible show wpAny _ _ (subscriptTail _ (Expr.Slice none (some _) none _) (Value.str _ _) (Value.ref _)) _ _ _); ((with_reducible rename Fr _ _ _ _ => F'); (with_reducible rename News _ _ _ _ => N')); (refine' G.step_butlast (s := ⟨_, _, _, _, _⟩) F' N' ?k1 ?k2 ?_ ?k3 ?k4; (case k1 => k_dflt (first | omega | (have kL' := G.lens2; omega))); (case k2 => k_dflt omega); (case k3 => with_unfolding_all rfl); (case k4 => (intro _; with_unfolding_all rfl))); (try clear F' N'); intro z' h' t' k' ez' lz' F' N'; (try (have wz' := G.isW_take (by assumption) ez'))))
local macro_rules | `(tactic| walk_at "subscriptTail Name Slice str ref") => `(tactic| (k_here; (with_reducible show wpAny _ _ (subscriptTail _ (Expr.Slice none (some _) none _) (Value.str _ _) (Value.ref _)) _ _ _); ((with_reducible rename Fr _ _ _ _ => F'); (with_reducible rename News _ _ _ _ => N')); (refine' G.step_butlast (s := ⟨_, _, _, _, _⟩) F' N' ?k1 ?k2 ?_ ?k3 ?k4; (case k1 => k_dflt (first | omega | (have kL' := G.lens2; omega))); (case k2 => k_dflt omega); (case k3 => with_unfolding_all rfl); (case k4 => (intro _; with_unfolding_all rfl))); (try clear F' N'); intro z' h' t' k' ez' lz' F' N'; (try (have wz' := G.isW_take (by assumption) ez'))))
local macro_rules | `(tactic| walk_at "subscriptTail BinOp") => `(tactic| (k_here; (with_reducible show wpAny _ _ (subscriptTail _ (Expr.Slice none (some _) none _) (Value.str _ _) (Value.ref _)) _ _ _); ((with_reducible rename Fr _ _ _ _ => F'); (with_reducible rename News _ _ _ _ => N')); (refine' G.step_butlast (s := ⟨_, _, _, _, _⟩) F' N' ?k1 ?k2 ?_ ?k3 ?k4; (case k1 => k_dflt (first | omega | (have kL' := G.lens2; omega))); (case k2 => k_dflt omega); (case k3 => with_unfolding_all rfl); (case k4 => (intro _; with_unfolding_all rfl))); (try clear F' N'); intro z' h' t' k' ez' lz' F' N'; (try (have wz' := G.isW_take (by assumption) ez'))))
local macro_rules | `(tactic| walk_at "subscriptTail") => `(tactic| (k_here; (with_reducible show wpAny _ _ (subscriptTail _ (Expr.Slice (some _) none none _) (Value.str _ _) (Value.ref _)) _ _ _); ((with_reducible rename Fr _ _ _ _ => F'); (with_reducible rename News _ _ _ _ => N')); (refine' G.step_from (s := ⟨_, _, _, _, _⟩) F' N' ?k1 ?k2 ?_ ?k3 ?k4; (case k1 => k_dflt (first | omega | (have kL' := G.lens2; omega))); (case k2 => first | kxi_fact | exact G.fm_nn (by omega)); (case k3 => with_unfolding_all rfl); (case k4 => (intro _; with_unfolding_all rfl))); (try clear F' N'); intro z' h' t' k' ez' lz' F' N'; (try (have wz' := G.isW_drop (by assumption) ez'))))
local macro_rules | `(tactic| walk_at "subscriptTail Name Slice str ref") => `(tactic| (k_here; (with_reducible show wpAny _ _ (subscriptTail _ (Expr.Slice (some _) none none _) (Value.str _ _) (Value.ref _)) _ _ _); ((with_reducible rename Fr _ _ _ _ => F'); (with_reducible rename News _ _ _ _ => N')); (refine' G.step_from (s := ⟨_, _, _, _, _⟩) F' N' ?k1 ?k2 ?_ ?k3 ?k4; (case k1 => k_dflt (first | omega | (have kL' := G.lens2; omega))); (case k2 => first | kxi_fact | exact G.fm_nn (by omega)); (case k3 => with_unfolding_all rfl); (case k4 => (intro _; with_unfolding_all rfl))); (try clear F' N'); intro z' h' t' k' ez' lz' F' N'; (try (have wz' := G.isW_drop (by assumption) ez'))))
local macro_rules | `(tactic| walk_at "subscriptTail BinOp") => `(tactic| (k_here; (with_reducible show wpAny _ _ (subscriptTail _ (Expr.Slice (some _) none none _) (Value.str _ _) (Value.ref _)) _ _ _); ((with_reducible rename Fr _ _ _ _ => F'); (with_reducible rename News _ _ _ _ => N')); (refine' G.step_from (s := ⟨_, _, _, _, _⟩) F' N' ?k1 ?k2 ?_ ?k3 ?k4; (case k1 => k_dflt (first | omega | (have kL' := G.lens2; omega))); (case k2 => first | kxi_fact | exact G.fm_nn (by omega)); (case k3 => with_unfolding_all rfl); (case k4 => (intro _; with_unfolding_all rfl))); (try clear F' N'); intro z' h' t' k' ez' lz' F' N'; (try (have wz' := G.isW_drop (by assumption) ez'))))
local macro_rules | `(tactic| walk_at "subscriptTail") => `(tactic| (k_here; (with_reducible show wpAny _ _ (subscriptTail _ (Expr.Slice (some _) none none _) (Value.str _ _) (Value.ref _)) _ _ _); ((with_reducible rename Fr _ _ _ _ => F'); (with_reducible rename News _ _ _ _ => N')); (refine' G.step_fromback (s := ⟨_, _, _, _, _⟩) F' N' ?k1 ?k2 ?_ ?k3 ?k4; (case k1 => k_dflt (first | omega | (have kL' := G.lens2; omega))); (case k2 => k_dflt omega); (case k3 => with_unfolding_all rfl); (case k4 => (intro _; with_unfolding_all rfl))); (try clear F' N'); intro z' h' t' k' ez' lz' F' N'; (try (have wz' := G.isW_drop (by assumption) ez'))))
local macro_rules | `(tactic| walk_at "subscriptTail Name Slice str ref") => `(tactic| (k_here; (with_reducible show wpAny _ _ (subscriptTail _ (Expr.Slice (some _) none none _) (Value.str _ _) (Value.ref _)) _ _ _); ((with_reducible rename Fr _ _ _ _ => F'); (with_reducible rename News _ _ _ _ => N')); (refine' G.step_fromback (s := ⟨_, _, _, _, _⟩) F' N' ?k1 ?k2 ?_ ?k3 ?k4; (case k1 => k_dflt (first | omega | (have kL' := G.lens2; omega))); (case k2 => k_dflt omega); (case k3 => with_unfolding_all rfl); (case k4 => (intro _; with_unfolding_all rfl))); (try clear F' N'); intro z' h' t' k' ez' lz' F' N'; (try (have wz' := G.isW_drop (by assumption) ez'))))
local macro_rules | `(tactic| walk_at "subscriptTail BinOp") => `(tactic| (k_here; (with_reducible show wpAny _ _ (subscriptTail _ (Expr.Slice (some _) none none _) (Value.str _ _) (Value.ref _)) _ _ _); ((with_reducible rename Fr _ _ _ _ => F'); (with_reducible rename News _ _ _ _ => N')); (refine' G.step_fromback (s := ⟨_, _, _, _, _⟩) F' N' ?k1 ?k2 ?_ ?k3 ?k4; (case k1 => k_dflt (first | omega | (have kL' := G.lens2; omega))); (case k2 => k_dflt omega); (case k3 => with_unfolding_all rfl); (case k4 => (intro _; with_unfolding_all rfl))); (try clear F' N'); intro z' h' t' k' ez' lz' F' N'; (try (have wz' := G.isW_drop (by assumption) ez'))))
local macro_rules | `(tactic| walk_at "compareOp NotIn str str") => `(tactic| (k_here; (first | (with_reducible refine' G.step_notin_no ?k1 ?_; (case k1 => first | assumption | exact G.sgl_turn' (by assumption) (by assumption))) | (with_reducible refine' G.step_notin ?_))))
local macro_rules | `(tactic| walk_at "compareOp In str str") => `(tactic| (k_here; (first | (with_reducible refine' G.step_in_yes ?k1 ?_; (case k1 => first | assumption | exact G.sgl_at' (by assumption) (by assumption))) | (with_reducible refine' G.step_in ?_))))
local macro_rules | `(tactic| walk_at "compareOp NotEq str str") => `(tactic| (k_here; (with_reducible refine' G.step_neT ?_)))
local macro_rules | `(tactic| walk_at "binaryOp Mult str int") => `(tactic| (k_here; (refine' G.step_mul ?k1 ?k2 ?k3 ?k4 ?k5 ?k6 ?_; (case k1 => kxi_len); (case k2 => decide); (case k3 => kxi_fact); (case k4 => kxi_fact); (case k5 => first | exact G.isW_0 | exact G.isW_0z); (case k6 => kxi_fact)); intro z' t' k' wz' lz'))
local macro_rules | `(tactic| walk_at "call builtin:str.index") => `(tactic| (k_here; (with_reducible show wpAny _ _ (PySem.call (Value.builtin "str.index") [Value.str _ _, Value.str _ _]) _ _ _); (refine' G.step_index ?k1 ?k2 ?_; (case k1 => with_unfolding_all rfl); (case k2 => first | assumption | exact G.sgl_w (by assumption) (by assumption) | exact G.sgl_turn' (by assumption) (by assumption) | exact G.sgl_at' (by assumption) (by assumption) | exact G.sgl_atB (by assumption) (by assumption) | exact G.sgl_is (by assumption) (by assumption) | exact G.sgl_due (by assumption) (by assumption) (by assumption))); intro n0' n1'))
local macro_rules | `(tactic| walk_at "eval ListComp") => `(tactic| (k_here; (with_reducible show wpAny _ _ (eval (Expr.ListComp _ [⟨Expr.Name _ _, Expr.Name _ _, _, _⟩] _ _) _) _ _ _); k_dflt (refine G.ListComp_text (by k_asm) (by rfl) (by decide) (by rfl) (by decide) (by rfl) ?_)))
local macro_rules | `(tactic| walk_at "eval ListComp") => `(tactic| (k_here; (with_reducible show wpAny _ _ (eval (Expr.ListComp _ [⟨Expr.Tuple _ _ _, _, _, _⟩] _ _) _) _ _ _); k_dflt (refine G.ListComp_enum (by k_asm) (by rfl) (by decide) (by rfl) (by decide) (by rfl) (by rfl) (by decide) ?_)))
local macro_rules | `(tactic| walk_at "TextSrc") => `(tactic| (k_here; (with_reducible show G.TextSrc _ _ _ _ _ _ _ (PySem.Expr.Compare _ _ _ _) _ _ _ _ _ _); (refine' G.TextSrc.intro ?ts0 ?ts1 ?ts2 ?ts3 ?_; (case ts0 => with_unfolding_all rfl); (case ts1 => k_asm); (case ts2 => k_asm); (case ts3 => k_dflt (first | omega | exact G.WOk.big (by assumption) | (have kL' := G.lens2; omega)))); intro g'; (refine' G.text_bools (fun c => decide ((c : Int) ∈ G.sgl)) (fun c' t' I' oI' C' oC' D' m' ys' h' tk' E' hC' hx' F' N' off' ne' hMark' => ?_) (fun ys' hys' => ?_)); (all_goals (try (simp only [LCg.Off3, and_true] at off'))); (all_goals (try dsimp only))))
local macro_rules | `(tactic| walk_at "TextSrc") => `(tactic| (k_here; (with_reducible show G.TextSrc _ _ _ _ _ _ _ (PySem.Expr.Call _ _ _ _) _ _ _ _ _ _); (refine' G.TextSrc.intro ?ts0 ?ts1 ?ts2 ?ts3 ?_; (case ts0 => with_unfolding_all rfl); (case ts1 => k_asm); (case ts2 => k_asm); (case ts3 => k_dflt (first | omega | exact G.WOk.big (by assumption) | (have kL' := G.lens2; omega)))); intro g'; (refine' G.text_ints (fun c => G.num (c : Int)) (fun c' t' I' oI' C' oC' D' m' ys' h' tk' E' hk' hC' hx' F' N' off' ne' hMark' => ?_) (fun ys' hys' => ?_)); (all_goals (try (simp only [LCg.Off3, and_true] at off'))); (all_goals (try dsimp only))))
local macro_rules | `(tactic| walk_at "CompEnd") => `(tactic| (refine' G.bEnd ?k1 ?k2 ?k3 ?k4; (case k1 => assumption); (case k2 => assumption); (case k3 => kcf_all); (case k4 => first | assumption | (simp only [LCg.Off3, and_true]; done) | (simp only [LCg.Off3, and_true]; assumption))))
local macro_rules | `(tactic| walk_at "call type:enumerate") => `(tactic| (k_here; (with_reducible show wpAny _ _ (PySem.call (Value.type "enumerate") [Value.str _ _]) _ _ _); (refine' G.call_enumC (fun i c => G.num (c : Int) * (Int.fmod (i : Int) 36 + 1)) ?en0 ?en1 ?en2 ?en3 ?_ ?_; (case en0 => with_unfolding_all rfl); (case en1 => k_asm); (case en2 => k_asm); (case en3 => k_dflt (first | omega | exact G.WOk.big (by assumption) | (have kL' := G.lens2; omega)))); (intro g'; (unfold G.EnumTurn); intro i' c' t' u' I' oI' T' oT' C' oC' D' m' ys' h' tk' E' hk' hi' hC' hx' hy' F' N' off' ne' hMark'; (try (simp only [LCg.Off3, and_true] at off'))); rotate_left; (intro g' ys' hys'; (try dsimp only)); rotate_right))
local macro_rules | `(tactic| walk_at "call type:enumerate cons nil") => `(tactic| (k_here; (with_reducible show wpAny _ _ (PySem.call (Value.type "enumerate") [Value.str _ _]) _ _ _); (refine' G.call_enumC (fun i c => G.num (c : Int) * (Int.fmod (i : Int) 36 + 1)) ?en0 ?en1 ?en2 ?en3 ?_ ?_; (case en0 => with_unfolding_all rfl); (case en1 => k_asm); (case en2 => k_asm); (case en3 => k_dflt (first | omega | exact G.WOk.big (by assumption) | (have kL' := G.lens2; omega)))); (intro g'; (unfold G.EnumTurn); intro i' c' t' u' I' oI' T' oT' C' oC' D' m' ys' h' tk' E' hk' hi' hC' hx' hy' F' N' off' ne' hMark'; (try (simp only [LCg.Off3, and_true] at off'))); rotate_left; (intro g' ys' hys'; (try dsimp only)); rotate_right))
local macro_rules | `(tactic| walk_at "exec For Name Name cons nil") => `(tactic| (k_of "_law_sign" => (k_here; (rename Fr _ _ _ _ => lF'); (with_unfolding_all refine' For_invVF lF' ?k1 ?k2 ?_; (case k1 => exact rfl); (case k2 => exact rfl); k_whole))))
local macro_rules | `(tactic| walk_at "call builtin:all") => `(tactic| (k_here; (with_reducible show wpAny _ _ (PySem.call (Value.builtin "all") [Value.ref _]) _ _ _); k_dflt (refine LSm.all_bools (by k_asm) (by k_asm) (by rfl) (by lsm_list) (by assumption) ?_); intro h' tk' F' N'))
local macro_rules | `(tactic| walk_at "noteFrame ref") => `(tactic| (k_here; (rename RaisedK _ _ _ _ _ _ _ _ => rkX); (k_dflt (refine' G.caught_err (bm1 := [.type "ValueError", .type "Exception", .type "BaseException", .type "object"]) (bm2 := [.type "ValueError", .type "Exception", .type "BaseException", .type "object"]) (new1 := "ValueError.__new__") (new2 := "ValueError.__new__") ?K ?F ?U ?R ?X ?T ?b1 ?q1 ?b2 ?q2 ?qu ?hb ?_; (case K => assumption); (case F => assumption); (case U => assumption); (case R => exact rkX); (case X => k_asm); (case T => k_asm); (case b1 => k_ownname); (case b2 => k_is); (case q1 => k_exc); (case q2 => k_exc); (case qu => kernel_rfl); (case hb => rfl); k_whole)); intro h' o' ot' tk' eo' F' N'; (try k_sweep)))
local macro_rules | `(tactic| walk_at "call builtin:isinstance") => `(tactic| (k_here; (with_reducible show wpAny _ _ (PySem.call (Value.builtin "isinstance") [Value.ref _, _]) _ _ _); (k_dflt (refine' kia_one (G.err_kitx ?ek ?hc) ?X ?I ?ee ?nb ?_; (case X => k_in); (case I => first | (refine' G.errAt_got ?g1 ?g2; (case g1 => assumption); (case g2 => assumption)) | (refine' G.errAt_of ?n1 ?n2 ?n3; (case n1 => k_asm); (case n2 => k_mem); (case n3 => assumption))); (case ek => (refine' ⟨?_, ?_, ?_, ?_, ?_, ?_, ?_⟩ <;> k_is)); (case hc => first | kernel_rfl | rfl); (case ee => kit_is); (case nb => kit_nb); k_whole)); intro tkI'))
local macro_rules | `(tactic| walk_at "JoinT") => `(tactic| (refine' G.JoinT.intro ?k1 ?k2 ?k3 ?k4 ?k5 ?k6; (case k1 => assumption); (case k2 => assumption); (case k3 => kst_in); (case k4 => kst_all); (case k5 => kst_same); (case k6 => (first | exact ⟨by assumption, by omega⟩ | exact ⟨by assumption, Nat.le_trans (G.len_rk (by assumption)) (by omega)⟩ | exact ⟨G.isW_cut (by assumption) (by assumption) (by assumption) (by assumption), by omega⟩))))
local macro_rules | `(tactic| walk_at "exec If") => `(tactic| (k_here; (with_reducible show wpAny _ _ (exec (Stmt.If _ [Stmt.Assign [Expr.Name (Str.ofString "_law_word") _] _ _] _ _) _) _ _ _); (fail_if_success (with_reducible show wpAny _ _ _ (G.JoinT _ _ _ _ _ _ _ _) _ _)); (with_reducible rename Fr _ _ _ _ => F'); (with_reducible rename News _ _ _ _ => N'); (refine' G.join_text (Str.ofString "_law_word") [] (fun x => G.IsW x ∧ x.length ≤ 34) F' N' ?_ ?_); (all_goals (try (intro h' tk' z' t' u' p' Fz' Nz'; clear F' N'; (obtain ⟨wz', lz'⟩ := p'); (try dsimp only [kstB] at Fz'))))))
local macro_rules | `(tactic| walk_at "exec If") => `(tactic| (k_here; (with_reducible show wpAny _ _ (exec (Stmt.If _ (Stmt.Assign [Expr.Name (Str.ofString "_law_many") _] _ _ :: _) _ _) _) _ _ _); (fail_if_success (with_reducible show wpAny _ _ _ (G.JoinT _ _ _ _ _ _ _ _) _ _)); (with_reducible rename Fr _ _ _ _ => F'); (with_reducible rename News _ _ _ _ => N'); (refine' G.join_text (Str.ofString "_law_line") [Str.ofString "_law_many"] (fun x => G.IsW x ∧ x.length ≤ 63) F' N' ?_ ?_); (all_goals (try (intro h' tk' z' t' u' p' Fz' Nz'; clear F' N'; (obtain ⟨wz', lz'⟩ := p'); (try dsimp only [kstB] at Fz'))))))
local macro_rules | `(tactic| walk_at "exec If") => `(tactic| (k_here; (with_reducible show wpAny _ _ (exec (Stmt.If _ (Stmt.Assign [Expr.Name (Str.ofString "_law_word") _] _ _ :: _ :: _) _ _) _) _ _ _); (fail_if_success (with_reducible show wpAny _ _ _ (G.JoinT _ _ _ _ _ _ _ _) _ _)); (with_reducible rename Fr _ _ _ _ => F'); (with_reducible rename News _ _ _ _ => N'); (refine' G.join_text (Str.ofString "_law_line") [Str.ofString "_law_word", Str.ofString "_law_spot"] (fun x => G.IsW x ∧ x.length ≤ 63) F' N' ?_ ?_); (all_goals (try (intro h' tk' z' t' u' p' Fz' Nz'; clear F' N'; (obtain ⟨wz', lz'⟩ := p'); (try dsimp only [kstB] at Fz'))))))
local macro_rules | `(tactic| walk_at "compareOp NotEq ref ref") => `(tactic| (k_here; (with_reducible show wpAny _ _ (compareOp CmpOp.NotEq (Value.ref _) (Value.ref _)) _ _ _); k_dflt (refine' ne_dataH ?ra ?rb ?sa ?sb ?hu ?_; (case ra => ke_read); (case rb => ke_read); (case sa => exact G.pair_isW (by assumption)); (case sb => exact G.pair_isW (by assumption)); (case hu => ke_room)); ke_norm))
local macro_rules | `(tactic| walk_at "binaryOp Mod int int") => `(tactic| (k_here; (with_reducible show wpAny _ _ (binaryOp Operator.Mod (Value.int _ _) (Value.int 37 _)) _ _ _); (first | (refine' G.step_modO2 ?e ?o ?hl ?hn ?_ ?_; (case e => assumption); (case o => assumption); (case hl => omega); (case hn => omega); (all_goals (first | (intro ia' ib' ic'; try (exfalso; omega)) | (intro ia' ib'; try (exfalso; omega))))) | (refine' G.step_mod_is ?e ?_; (case e => first | exact (G.ld_pl (by assumption)).trans (G.oth_pl (by assumption)) | exact G.ld_pl (by assumption) | exact G.ld_wl (by assumption))))))
local macro_rules | `(tactic| walk_at "binaryOp Mod int int") => `(tactic| (k_here; (with_reducible show wpAny _ _ (binaryOp Operator.Mod (Value.int _ _) (Value.int (Nat.cast (PySem.Str.length _)) _)) _ _ _); (refine' G.step_modv ?md ?_; (case md => omega)); intro r' r0' r1'))
local macro_rules | `(tactic| walk_at "binaryOp Mod int int") => `(tactic| (k_here; (with_reducible show wpAny _ _ (binaryOp Operator.Mod (Value.int (HMul.hMul (G.wlF _) (G.turn _)) _) (Value.int 37 _)) _ _ _); (refine' G.step_weightK ?_); intro mk' m0' m1' m2'))
local macro_rules | `(tactic| walk_at "binaryOp Mult str int") => `(tactic| (k_here; (refine' G.step_mul40 ?k1 ?k2 ?k3 ?k4 ?k5 ?k6 ?_; (case k1 => kxi_len); (case k2 => decide); (case k3 => kxi_fact); (case k4 => kxi_fact); (case k5 => first | exact G.isW_0 | exact G.isW_0z); (case k6 => kxi_fact)); intro z' t' k' wz' lz'))
local macro_rules | `(tactic| walk_at "binaryOp Add str str") => `(tactic| (k_here; (with_reducible refine' G.step_add ?k1 ?_); (case k1 => k_dflt (have kL' := G.lens2; (try simp only [G.len_signS]); omega)); intro z' t' k' ez' lz'; (try simp only [G.len_signS] at lz'); (first
  | ((with_reducible have dz' := G.dblS_out' ez' (by assumption)); (have dy' := dz' (by k_dflt rfl) (by k_dflt rfl)); subst dy'; clear dz'; (have wd' := G.isW_dblS (by assumption)))
  | ((with_reducible have oz' := G.othM_of ez' (by assumption) (by assumption) (by assumption) (by assumption)); (have ow' := oz' (by rfl) (by assumption) (by rfl) (by first | rfl | omega) (by omega)); clear oz'; (have wz' := G.Oth.w (G.OthM.o ow')))
  | ((with_reducible have oz' := G.oth_of ez' (by assumption) (by assumption) (by assumption) (by assumption) (by assumption) (by assumption)); (have ow' := oz' (by first | rfl | omega) (by omega)); clear oz'; (have wz' := G.Oth.w ow'))
  | ((with_reducible have oz' := G.one_of ez' (by assumption) (by assumption) (by assumption) (by assumption) (by assumption) (by assumption)); (have ow' := oz' (by first | rfl | omega) (by omega) (by kxi_fact) (by kxi_fact)); clear oz'; (have wz' := G.One.w ow'))
  | (have oz' := G.has_odd' ez' (by assumption) (by first | assumption | exact G.pick_odd' (by assumption) (by assumption) (by assumption)))
  | (have wz' := G.isW_of ez' (by assumption) (by assumption))
  | skip)))
local macro_rules | `(tactic| walk_at "compareOp NotEq str str") => `(tactic| (k_here; (first | (with_reducible refine' G.step_ne_no ?e ?_; (case e => (first | exact rfl | exact G.oth_same (by assumption) (by omega) | exact G.oth_eq (by assumption) (by assumption) (by omega)))) | (with_reducible refine' G.step_ne_yes ?e ?_; (case e => (exact G.oth_ne (by assumption) (by omega)))))))
local macro_rules | `(tactic| walk_at "compareOp Eq str str") => `(tactic| (k_here; (first | (with_reducible refine' G.step_eq_yes ?e ?_; (case e => exact rfl)) | (with_reducible refine' G.step_eq_no ?e ?_; (case e => exact G.oth_ne (G.OthM.o (by assumption)) (by omega))))))
local macro_rules | `(tactic| walk_at "compareOp NotEq ref ref") => `(tactic| (k_here; (with_reducible show wpAny _ _ (compareOp CmpOp.NotEq (Value.ref _) (Value.ref _)) _ _ _); (rename G.OthM _ _ => om'); (rename G.Oth _ _ _ => ol'); (have e' := G.othM_eq om' ol' (by omega)); (subst e'); (clear ol'); walk_at "compareOp NotEq ref ref"))
local macro_rules | `(tactic| walk_at "compareOp Eq bool bool") => `(tactic| (k_here; (with_reducible refine' G.step_eqb ?e ?_); (case e => (first | exact rfl | exact G.eqb_no (by first | assumption | omega) | exact G.eqb_yes (by first | assumption | omega)))))
local macro_rules | `(tactic| walk_at "compareOp Eq int int") => `(tactic| (k_here; (with_reducible show wpAny _ _ (compareOp CmpOp.Eq (Value.int _ _) (Value.int 0 _)) _ _ _); (first | (refine' G.step_eqi_yes ?e ?_; (case e => first | rfl | assumption | omega)) | (refine' G.step_eqi_no ?e ?_; (case e => first | assumption | omega)))))
local macro_rules | `(tactic| walk_at "compareOp Eq ref ref") => `(tactic| (k_here; (with_reducible show wpAny _ _ (compareOp CmpOp.Eq (Value.ref _) (Value.ref _)) _ _ _); k_dflt (refine eq_dataH (by ke_read) (by ke_read) (by ke_shaped) (by ke_shaped) (by ke_room) ?_); ke_norm; (first | rw [G.eqb_no (by assumption)] | skip)))
local macro_rules | `(tactic| walk_at "JoinI") => `(tactic| (refine' G.JoinI.intro ?k1 ?k2 ?k3 ?k4; (case k1 => assumption); (case k2 => assumption); (case k3 => kst_in); (case k4 => (exact G.way5_in))))
local macro_rules | `(tactic| walk_at "exec Assign") => `(tactic| (k_here; (with_reducible show wpAny _ _ (exec (Stmt.Assign [Expr.Name (Str.ofString "_law_way") _] _ _) _) _ _ _); (fail_if_success (with_reducible show wpAny _ _ _ (G.JoinI _ _ _ _ _ _ _) _ _)); (with_reducible rename Fr _ _ _ _ => F'); (with_reducible rename News _ _ _ _ => N'); (refine' G.join_int (Str.ofString "_law_way") (fun v => 0 ≤ v ∧ v < 5) F' N' ?_ ?_); (all_goals (try (intro h' tk' v' t' p' Fz' Nz'; clear F' N'; (obtain ⟨v0', v1'⟩ := p'))))))
local macro_rules | `(tactic| walk_at "InvEndN") => `(tactic| (k_dflt (first | (kst_close) | ksr_close)))
local macro_rules | `(tactic| walk_at "callWith ref") => `(tactic| (k_here; k_dflt (first | (refine' callWith_K ?k1 ?k2 ?_; (case k1 => k_asm); (case k2 => k_is); k_whole) | (refine' callWith_K0 ?k1 ?k2 ?_; (case k1 => exact Frag.In.keeps (by k_asm) (Fr.keep (by k_asm))); (case k2 => k_is); k_whole))))
local macro_rules | `(tactic| walk_at "execs nil") => `(tactic| (with_reducible refine PySem.wpAny_execs_nil ?_))
local macro_rules | `(tactic| walk_at "execs cons") => `(tactic| ((with_reducible refine PySem.wpAny_execs_cons ?_); try dsimp only))
local macro_rules | `(tactic| k_in) => `(tactic| first | exact Frag.In.keeps (by k_asm) (Fr.keep (by k_asm)) | (refine' Frag.In.keeps ?ki1 ?ki2; (case ki2 => exact Fr.keep (by k_asm)); (case ki1 => k_asm)))
local macro_rules | `(tactic| k_room) => `(tactic| ktr_room)
local macro_rules | `(tactic| walk_at "InvEndN") => `(tactic| (k_dflt (((rename News _ _ _ _ => nE'); (try simp only [List.push_toArray] at nE'); (refine' kst_end ⟨_, _, _, _, _, _⟩ ?i1 nE' ?i2 ?i3 ?i4 ?i5 ?i6 ?i7 ?i8); ((case i1 => assumption)); ((case i6 => kst_all)); ((case i2 => first | ((try dsimp only); intro p hp; with_reducible kst_mem) | ((try dsimp only); intro p hp; exact List.mem_append_left _ hp) | ((try dsimp only); intro p hp; exact List.Mem.tail _ (List.mem_append_left _ hp)) | kst_in | kst_inAny)); ((case i3 => first | (intro p hp; with_reducible kst_mem) | (intro p hp; kst_mem) | kst_anyIn)); ((case i4 => rfl)); ((case i5 => kst_facts)); ((case i7 => kst_same)); ((case i8 => kst_p))))))
local macro_rules | `(tactic| walk_at "InvEndN") => `(tactic| (k_dflt (((rename News _ _ _ _ => nE'); (try simp only [List.push_toArray] at nE'); (refine' kst_end ⟨_, _⟩ ?i1 nE' ?i2 ?i3 ?i4 ?i5 ?i6 ?i7 ?i8); ((case i1 => assumption)); ((case i6 => kst_all)); ((case i2 => first | ((try dsimp only); intro p hp; with_reducible kst_mem) | ((try dsimp only); intro p hp; exact List.mem_append_left _ hp) | ((try dsimp only); intro p hp; exact List.Mem.tail _ (List.mem_append_left _ hp)) | kst_in | kst_inAny)); ((case i3 => first | (intro p hp; with_reducible kst_mem) | (intro p hp; kst_mem) | kst_anyIn)); ((case i4 => rfl)); ((case i5 => kst_facts)); ((case i7 => kst_same)); ((case i8 => kst_p))))))
local macro_rules | `(tactic| walk_at "InvEndN") => `(tactic| (k_dflt (((rename News _ _ _ _ => nE'); ((refine' kst_end (σ := Unit) _ ?i1 nE' ?i2 ?i3 ?i4 ?i5 ?i6 ?i7 ?i8)); ((case i1 => assumption)); ((case i2 => first | ((try dsimp only); intro p hp; with_reducible kst_mem) | ((try dsimp only); intro p hp; exact List.mem_append_left _ hp) | ((try dsimp only); intro p hp; exact List.Mem.tail _ (List.mem_append_left _ hp)) | kst_in | kst_inAny)); ((case i3 => first | (intro p hp; with_reducible kst_mem) | (intro p hp; kst_mem) | kst_anyIn)); ((case i4 => rfl)); ((case i5 => kst_facts)); ((case i6 => kst_all)); ((case i7 => (intro z h1 h2 h3; first | ((have h4 := h3); (simp only [List.contains_cons, List.contains_nil, Bool.or_false, Bool.or_eq_false_iff, beq_eq_false_iff_ne, ne_eq] at h4); (obtain ⟨n1', n2', n3'⟩ := h4); (try dsimp only); (repeat (first | refine Eq.trans (if_neg h1) ?_ | refine Eq.trans (if_neg n1') ?_ | refine Eq.trans (if_neg n2') ?_ | refine Eq.trans (if_neg n3') ?_)); (exact if_neg (by rw [h3]; decide))) | ((have h4 := h3); (simp only [List.contains_cons, List.contains_nil, Bool.or_false, Bool.or_eq_false_iff, beq_eq_false_iff_ne, ne_eq] at h4); (try dsimp only); (repeat (first | refine Eq.trans (if_neg h1) ?_ | refine Eq.trans (if_neg h4) ?_)); (exact if_neg (by rw [h3]; decide))) | ((try dsimp only); (repeat (refine Eq.trans (if_neg h1) ?_)); (exact if_neg (by rw [h3]; decide)))))); ((case i8 => first | exact True.intro | kst_p))))))
local macro_rules | `(tactic| walk_at "call ref") => `(tactic| (k_here; (with_reducible show wpAny _ _ (PySem.call (Value.ref 82) _) _ _ _); (k_dflt (refine' G.Cl.use (cWord _ _ _ _ _ _) ?c1 ?c2 ?c3 ?c4 ?c5 ?c6 ?c7 ?c8 ?c9 ?_; (case c7 => with_reducible ((first | omega | exact G.WOk.big (by assumption) | (have kL9 := G.lens2; omega)))); (case c2 => k_asm); (case c1 => k_asm); (case c3 => k_asm); (case c4 => k_asm); (case c5 => k_asm); (case c6 => first | exact rfl | assumption); (case c8 => ktr_room); (case c9 => ktr_units))); (intro t9 h9 tk9 F9 N9; (try dsimp only); (try k_fold))))
local macro_rules | `(tactic| walk_at "call ref") => `(tactic| (k_here; (with_reducible show wpAny _ _ (PySem.call (Value.ref 82) _) _ _ _); (k_dflt (refine' G.Cl.use (cWordN _ _ _ _ _ _) ?c1 ?c2 ?c3 ?c4 ?c5 ?c6 ?c7 ?c8 ?c9 ?_; (case c7 => with_reducible (exact ⟨by assumption, (by first | omega | (have kL9 := G.lens2; omega))⟩)); (case c2 => k_asm); (case c1 => k_asm); (case c3 => k_asm); (case c4 => k_asm); (case c5 => k_asm); (case c6 => first | exact rfl | assumption); (case c8 => ktr_room); (case c9 => ktr_units))); (intro t9 h9 tk9 F9 N9; (try dsimp only); (try k_fold))))
local macro_rules | `(tactic| walk_at "call ref") => `(tactic| (k_here; (with_reducible show wpAny _ _ (PySem.call (Value.ref 82) _) _ _ _); (k_dflt (refine' G.Cl.use (cWordY _ _ _ _ _ _) ?c1 ?c2 ?c3 ?c4 ?c5 ?c6 ?c7 ?c8 ?c9 ?_; (case c7 => with_reducible (first | exact ⟨by assumption, (by first | omega | (have kL9 := G.lens2; omega))⟩ | exact ⟨G.MOk.w (by assumption), by omega⟩ | exact ⟨G.DblOk.w (by assumption), by omega⟩)); (case c2 => k_asm); (case c1 => k_asm); (case c3 => k_asm); (case c4 => k_asm); (case c5 => k_asm); (case c6 => first | exact rfl | assumption); (case c8 => ktr_room); (case c9 => ktr_units))); (intro t9 h9 tk9 F9 N9; (try dsimp only); (try k_fold))))
local macro_rules | `(tactic| walk_at "call ref") => `(tactic| (k_here; (with_reducible show wpAny _ _ (PySem.call (Value.ref 108) _) _ _ _); (k_dflt (refine' G.Cl.use (cPlain _ _ _ _ _ _) ?c1 ?c2 ?c3 ?c4 ?c5 ?c6 ?c7 ?c8 ?c9 ?_; (case c7 => with_reducible (first | assumption | exact ⟨by assumption, (by first | omega | (have kL9 := G.lens2; omega))⟩ | exact G.wok_is (by assumption) (by first | omega | (have kL9 := G.lens2; omega)) | exact G.MOk.wok (by assumption) | exact G.wok_dbl (by assumption))); (case c2 => k_asm); (case c1 => k_asm); (case c3 => k_asm); (case c4 => k_asm); (case c5 => k_asm); (case c6 => first | exact rfl | assumption); (case c8 => ktr_room); (case c9 => ktr_units))); (intro t9 h9 tk9 F9 N9; (try dsimp only); (try k_fold))))
local macro_rules | `(tactic| walk_at "call ref") => `(tactic| (k_here; (with_reducible show wpAny _ _ (PySem.call (Value.ref 113) _) _ _ _); (k_dflt (refine' G.Cl.use (cWeighed _ _ _ _ _ _) ?c1 ?c2 ?c3 ?c4 ?c5 ?c6 ?c7 ?c8 ?c9 ?_; (case c7 => with_reducible (first | assumption | exact ⟨by assumption, (by first | omega | (have kL9 := G.lens2; omega))⟩ | exact G.wok_is (by assumption) (by first | omega | (have kL9 := G.lens2; omega)) | exact G.MOk.wok (by assumption) | exact G.wok_dbl (by assumption))); (case c2 => k_asm); (case c1 => k_asm); (case c3 => k_asm); (case c4 => k_asm); (case c5 => k_asm); (case c6 => first | exact rfl | assumption); (case c8 => ktr_room); (case c9 => ktr_units))); (intro t9 h9 tk9 F9 N9; (try dsimp only); (try k_fold))))
local macro_rules | `(tactic| walk_at "call ref") => `(tactic| (k_here; (with_reducible show wpAny _ _ (PySem.call (Value.ref 70) _) _ _ _); (k_dflt (refine' G.Cl.use (cSign _ _ _ _ _ _) ?c1 ?c2 ?c3 ?c4 ?c5 ?c6 ?c7 ?c8 ?c9 ?_; (case c7 => with_reducible (trivial)); (case c2 => k_asm); (case c1 => k_asm); (case c3 => k_asm); (case c4 => k_asm); (case c5 => k_asm); (case c6 => first | exact rfl | assumption); (case c8 => ktr_room); (case c9 => ktr_units))); (intro t9 h9 tk9 F9 N9; (try dsimp only); (try k_fold))))
local macro_rules | `(tactic| walk_at "call ref") => `(tactic| (k_here; (with_reducible show wpAny _ _ (PySem.call (Value.ref 77) _) _ _ _); (k_dflt (refine' G.Cl.useTurn (cTurned _ _ _ _ _ _) ?c1 ?c2 ?c3 ?c4 ?c5 ?c6 ?c7 ?c8 ?c9 ?_; (case c7 => with_reducible (trivial)); (case c2 => k_asm); (case c1 => k_asm); (case c3 => k_asm); (case c4 => k_asm); (case c5 => k_asm); (case c6 => first | exact rfl | assumption); (case c8 => ktr_room); (case c9 => ktr_units))); (intro bt9 t9 h9 tk9 F9 N9; (try dsimp only); (try k_fold))))
local macro_rules | `(tactic| walk_at "call ref") => `(tactic| (k_here; (with_reducible show wpAny _ _ (PySem.call (Value.ref 134) [Value.str _ _]) _ _ _); (refine' G.split_sound ?_ ?_ ?_ <;> (first | (intro sp1' sp2') | (intro sp3')))))
local macro_rules | `(tactic| walk_at "call ref") => `(tactic| (k_here; (with_reducible show wpAny _ _ (PySem.call (Value.ref 134) _) _ _ _); (k_dflt (refine' G.Cl.use (cSoundB _ _ _ _ _ true _) ?c1 ?c2 ?c3 ?c4 ?c5 ?c6 ?c7 ?c8 ?c9 ?_; (case c7 => with_reducible (exact ⟨G.sndY (by assumption) (by omega) (by omega) (by assumption) (by assumption), by omega⟩)); (case c2 => k_asm); (case c1 => k_asm); (case c3 => k_asm); (case c4 => k_asm); (case c5 => k_asm); (case c6 => first | exact rfl | assumption); (case c8 => ktr_room); (case c9 => ktr_units))); (intro t9 h9 tk9 F9 N9; (try dsimp only); (try k_fold))))
local macro_rules | `(tactic| walk_at "call ref") => `(tactic| (k_here; (with_reducible show wpAny _ _ (PySem.call (Value.ref 134) _) _ _ _); (k_dflt (refine' G.Cl.use (cSoundB _ _ _ _ _ false _) ?c1 ?c2 ?c3 ?c4 ?c5 ?c6 ?c7 ?c8 ?c9 ?_; (case c7 => with_reducible (exact ⟨by first | exact G.sndP (by assumption) | exact G.sndW (by assumption) | exact G.sndO (by assumption) | exact G.sndL (by omega), by omega⟩)); (case c2 => k_asm); (case c1 => k_asm); (case c3 => k_asm); (case c4 => k_asm); (case c5 => k_asm); (case c6 => first | exact rfl | assumption); (case c8 => ktr_room); (case c9 => ktr_units))); (intro t9 h9 tk9 F9 N9; (try dsimp only); (try k_fold))))
local macro_rules | `(tactic| walk_at "call ref") => `(tactic| (k_here; (with_reducible show wpAny _ _ (PySem.call (Value.ref 120) _) _ _ _); (k_dflt (refine' G.Cl.useDbl (cDoubly _ _ _ _ _ _) ?c1 ?c2 ?c3 ?c4 ?c5 ?c6 ?c7 ?c8 ?c9 ?_; (case c7 => with_reducible (exact ⟨by assumption, by omega⟩)); (case c2 => k_asm); (case c1 => k_asm); (case c3 => k_asm); (case c4 => k_asm); (case c5 => k_asm); (case c6 => first | exact rfl | assumption); (case c8 => ktr_room); (case c9 => ktr_units))); (intro wd9 ld9 sd9 t9 h9 tk9 F9 N9; (try dsimp only); (try k_fold))))
def G.scope8 : Scope := { kind := ScopeKind.function, names := [(PySem.Str.ofString "_law_script", NameKind.local), (PySem.Str.ofString "_law_line", NameKind.local), (PySem.Str.ofString "_law_way", NameKind.local), (PySem.Str.ofString "_law_many", NameKind.local), (PySem.Str.ofString "_law_word", NameKind.local), (PySem.Str.ofString "_law_spot", NameKind.local), (PySem.Str.ofString "_law_sign", NameKind.local), (PySem.Str.ofString "_law_found", NameKind.local), (PySem.Str.ofString "_law_told", NameKind.local), (PySem.Str.ofString "e", NameKind.local), (PySem.Str.ofString "_law_due", NameKind.local), (PySem.Str.ofString "_law_sound", NameKind.local), (PySem.Str.ofString "_law_word_of", NameKind.globalImplicit), (PySem.Str.ofString "_law_at", NameKind.globalImplicit), (PySem.Str.ofString "doubly", NameKind.globalImplicit), (PySem.Str.ofString "len", NameKind.globalImplicit), (PySem.Str.ofString "_law_changed", NameKind.globalImplicit), (PySem.Str.ofString "_law_odd", NameKind.globalImplicit), (PySem.Str.ofString "mended", NameKind.globalImplicit), (PySem.Str.ofString "GuardError", NameKind.globalImplicit), (PySem.Str.ofString "isinstance", NameKind.globalImplicit), (PySem.Str.ofString "NoSign", NameKind.globalImplicit), (PySem.Str.ofString "NoLength", NameKind.globalImplicit), (PySem.Str.ofString "int", NameKind.globalImplicit), (PySem.Str.ofString "NoMend", NameKind.globalImplicit), (PySem.Str.ofString "ValueError", NameKind.globalImplicit), (PySem.Str.ofString "_law_due_of", NameKind.globalImplicit), (PySem.Str.ofString "str", NameKind.globalImplicit), (PySem.Str.ofString "is_sound", NameKind.globalImplicit), (PySem.Str.ofString "bool", NameKind.globalImplicit)], isGenerator := false, isCoroutine := false }
def G.Rest8 (p : PySem.Str → Prop) : Prop :=
  ∀ (w : World) (s₀ s₁ : Shared) (mg mb : PySem.Str → Option Value) (_ : Ground hd08.view_39 [] PySem.Challenge.rw_guardline_k08_whole_mended_or_not.row.records (XL hd08.view_39 []) w s₀ mg mb s₁.heap) (fa : Addr) (o : Obj) (_ : s₁.heap.get? fa = some o) (_ : s₁.gens = #[]) (_ : (hd08.heap_39 w.params).In s₁.heap) (_ : Flt.MathXP hd08.view_39 mg s₁.heap) (_ : LooseAre [] mg s₁.heap)
    (_ : Glob 0 mg mb (List.map itemOf (recsOf hd08.view_39)) (scalarsOf [] ++ constsW hd08.view_39) [] (namesW hd08.view_39 []) s₁.heap)
    (T : Top hd08.view_39 (looseW hd08.view_39 []) (ExcName.means s₀.heap) mg mb s₁.heap) (_ : Tables hd08.view_39 w mg s₁.heap) (_ : TopE hd08.view_39 (looseW hd08.view_39 []) mg s₁.heap) (_ : TopW hd08.view_39 mg s₁.heap)
    (a1 : Addr) (o1 : Obj) (_ : BMod s₁.heap mainGlobals mg a1 o1) (c : Addr) (_ : Below callerA T.heap [] T.heap)
    (m : PySem.Str → Option Value) (z : PySem.Str) (t : Tok) (s : Shared) (Q : Flow → Shared → Prop) (E : Value → Shared → Prop),
    Fr T.heap s₁.heap.objs.size s.heap m → m (PySem.Str.ofString "_law_line") = some (.str z t) → p z →
    (∀ (h' : Heap) (tk' : Nat) (m' : PySem.Str → Option Value), Fr T.heap s₁.heap.objs.size h' m' → Q (.ret (.bool true)) { s with heap := h', toks := tk' }) →
    wpAny (model PySem.Challenge.rw_guardline_k08_whole_mended_or_not.row.prog w) (callerA.deeper (envOf (PySem.Str.ofString "law") G.scope8 s₁.heap.objs.size fa (Value.ref c))) (execs ((G.bodyOf hd08).drop 6) (envOf (PySem.Str.ofString "law") G.scope8 s₁.heap.objs.size fa (Value.ref c))) Q E s
theorem G.Rest8.use {p : PySem.Str → Prop} (R : G.Rest8 p) {w : World} {s₀ s₁ : Shared} {mg mb : PySem.Str → Option Value} {fa : Addr} {o : Obj} {a1 : Addr} {o1 : Obj} {c : Addr} {m : PySem.Str → Option Value} {z : PySem.Str} {t : Tok} {s : Shared} {Q : Flow → Shared → Prop} {E : Value → Shared → Prop}
    (T : Top hd08.view_39 (looseW hd08.view_39 []) (ExcName.means s₀.heap) mg mb s₁.heap) (F : Fr T.heap s₁.heap.objs.size s.heap m) (hm : m (PySem.Str.ofString "_law_line") = some (.str z t)) (hp : p z)
    (g1 : Ground hd08.view_39 [] PySem.Challenge.rw_guardline_k08_whole_mended_or_not.row.records (XL hd08.view_39 []) w s₀ mg mb s₁.heap) (g2 : s₁.heap.get? fa = some o) (g3 : s₁.gens = #[]) (g4 : (hd08.heap_39 w.params).In s₁.heap) (g5 : Flt.MathXP hd08.view_39 mg s₁.heap) (g6 : LooseAre [] mg s₁.heap)
    (g7 : Glob 0 mg mb (List.map itemOf (recsOf hd08.view_39)) (scalarsOf [] ++ constsW hd08.view_39) [] (namesW hd08.view_39 []) s₁.heap)
    (g8 : Tables hd08.view_39 w mg s₁.heap) (g9 : TopE hd08.view_39 (looseW hd08.view_39 []) mg s₁.heap) (g10 : TopW hd08.view_39 mg s₁.heap) (g11 : BMod s₁.heap mainGlobals mg a1 o1) (g12 : Below callerA T.heap [] T.heap)
    (hret : ∀ (h' : Heap) (tk' : Nat) (m' : PySem.Str → Option Value), Fr T.heap s₁.heap.objs.size h' m' → Q (.ret (.bool true)) { s with heap := h', toks := tk' }) :
    wpAny (model PySem.Challenge.rw_guardline_k08_whole_mended_or_not.row.prog w) (callerA.deeper (envOf (PySem.Str.ofString "law") G.scope8 s₁.heap.objs.size fa (Value.ref c))) (execs ((G.bodyOf hd08).drop 6) (envOf (PySem.Str.ofString "law") G.scope8 s₁.heap.objs.size fa (Value.ref c))) Q E s :=
  R w s₀ s₁ mg mb g1 fa o g2 g3 g4 g5 g6 g7 T g8 g9 g10 a1 o1 g11 c g12 m z t s Q E F hm hp hret
set_option rowWalk.seconds 1700 in
set_option maxRecDepth 100000 in
set_option maxHeartbeats 8000000 in
theorem restO : G.Rest8 (fun z => G.HasOdd z ∧ z.length ≤ 200) := by
  k_with_none
  k_with "state" => (first | exact G.wordL_start | exact G.wordL_turn (by assumption) (by assumption) (by assumption) (by omega) (by omega) | exact G.ldS0 | exact G.ldS1 (by assumption) (by assumption) | exact G.ldS2 (by assumption) (by assumption) (by assumption) (by assumption) | exact G.miss0 _ | exact G.miss1 (by assumption) (by first | assumption | omega) | exact G.allW0 | exact G.allW1 (by assumption) (by first | assumption | exact G.sgl_turn' (by assumption) (by assumption) | (simp_all; done)) | exact G.notyetO1 (by assumption) (by assumption) (by omega) | trivial)
  k_with "tree" => (first | exact G.isWb_list _ | exact G.isWb_list' _ | exact G.signS_out (by assumption) | exact G.hitF (by assumption) (by omega) (by omega) | exact G.noneF (by assumption))
  k_with "exec For Name Call cons nil" => (k_of "_law_spot" => (k_here; (rename Fr _ _ _ _ => lF'); (with_unfolding_all refine' For_invVF lF' ?k1 ?k2 ?_; (case k1 => exact rfl); (case k2 => exact rfl); k_whole)))
  k_with "pyIter ref" => (k_of "_law_spot" => (k_here; (rename Fr _ _ _ _ => lF'); (rename News _ _ _ _ => lN'); (rename IsRange _ _ _ _ _ _ _ _ => rgX); (rename G.MwK _ => mwX); (with_unfolding_all refine' G.range_search (fun pre => G.NotYetOf mwX pre) [PySem.Str.ofString "_law_other"] (by rfl) rgX (by exact small_one (by omega) (by omega) (by omega) (by omega)) (by exact rangeSize_nat _ _) lF' lN' G.notyetO0 ?_ ?_); (all_goals (try clear lF' lN')); (all_goals (first | (intro kPre kN kT kU kH kTk kOwn kEq kLt kOff kInv kFr kNews; (try dsimp only at kOff); (try simp only [List.map_cons, List.map_nil] at kOff)) | (intro kU kH kTk kInv kFr kNews; (have kAll := G.notyet_all kInv); (try (exfalso; omega))))); (all_goals (have kMark := kstMark; (try dsimp only [kstB] at kFr); (try dsimp only at kNews); (try simp only [List.nil_append, List.cons_append, List.append_nil] at kNews))); (all_goals (try k_fold))))
  k_with "pyIter ref" => (k_of "_law_k" => (k_state (fun pre line => line.length ≤ pre.length ∧ line.length ≤ 63 ∧ G.IsW line) "_law_line"))
  k_with "pyIter str" => (k_of "_law_sign" => (k_here; (rename Fr _ _ _ _ => lF'); (rename News _ _ _ _ => lN'); (with_unfolding_all refine' G.text_search (fun pre => G.AllW pre) [] (by rfl) lF' lN' ?kp ?_ ?_); (case kp => exact G.allW0); (all_goals (try clear lF' lN')); (all_goals (first | (intro kPre kPost kN kT kU kH kTk kOwn kEq kOff kInv kFr kNews; (try dsimp only at kOff); (try simp only [List.map_cons, List.map_nil] at kOff)) | (intro kU kH kTk kInv kFr kNews; (try (exfalso; exact G.odd_clash kInv (by assumption)))))); (all_goals (have kMark := kstMark; (try dsimp only [kstB] at kFr); (try dsimp only at kNews); (try dsimp only at kInv); (try simp only [List.nil_append, List.cons_append, List.append_nil] at kNews))); (all_goals (try k_fold))))
  k_with "pyIter str" => (k_of "_law_sign" => (k_state (fun pre p w h => 0 ≤ h ∧ h ≤ 36 ∧ G.LD pre p w h) "_law_plain" "_law_weighed" "_law_heavy"))
  w_top off
  unfold G.Rest8
  k_fill
  intro w s₀ s₁ mg mb Gd fa o ho hg KX X V GL T B TE TW a1 o1 M c K0 m z t s Q E F' hm hp hret
  have F := G.fr_line F' hm
  clear F' hm
  have N := G.news_nil (h₀ := T.heap) (h := s.heap) (L := s₁.heap.objs.size)
  obtain ⟨hw0, hl0⟩ := hp
  unfold G.scope8
  dsimp only [G.bodyOf, List.drop]
  k_steps
  all_goals (try k_data)
  all_goals (first | exact hret _ _ _ (by assumption) | w_report)
set_option rowWalk.seconds 1700 in
set_option maxRecDepth 100000 in
set_option maxHeartbeats 8000000 in
theorem restW : G.Rest8 (fun z => G.IsW z ∧ z.length ≤ 63) := by
  k_with_none
  k_with "state" => (first | exact G.wordL_start | exact G.wordL_turn (by assumption) (by assumption) (by assumption) (by omega) (by omega) | exact G.ldS0 | exact G.ldS1 (by assumption) (by assumption) | exact G.ldS2 (by assumption) (by assumption) (by assumption) (by assumption) | exact G.miss0 _ | exact G.miss1 (by assumption) (by first | assumption | omega) | exact G.allW0 | exact G.allW1 (by assumption) (by first | assumption | exact G.sgl_turn' (by assumption) (by assumption) | (simp_all; done)) | exact G.notyetO1 (by assumption) (by assumption) (by omega) | trivial)
  k_with "tree" => (first | exact G.isWb_list _ | exact G.isWb_list' _ | exact G.signS_out (by assumption) | exact G.hitF (by assumption) (by omega) (by omega) | exact G.noneF (by assumption))
  k_with "exec For Name Call cons nil" => (k_of "_law_spot" => (k_here; (rename Fr _ _ _ _ => lF'); (with_unfolding_all refine' For_invVF lF' ?k1 ?k2 ?_; (case k1 => exact rfl); (case k2 => exact rfl); k_whole)))
  k_with "pyIter ref" => (k_of "_law_spot" => (k_here; (rename Fr _ _ _ _ => lF'); (rename News _ _ _ _ => lN'); (rename IsRange _ _ _ _ _ _ _ _ => rgX); (rename G.MwK _ => mwX); (with_unfolding_all refine' G.range_search (fun pre => G.NotYetOf mwX pre) [PySem.Str.ofString "_law_other"] (by rfl) rgX (by exact small_one (by omega) (by omega) (by omega) (by omega)) (by exact rangeSize_nat _ _) lF' lN' G.notyetO0 ?_ ?_); (all_goals (try clear lF' lN')); (all_goals (first | (intro kPre kN kT kU kH kTk kOwn kEq kLt kOff kInv kFr kNews; (try dsimp only at kOff); (try simp only [List.map_cons, List.map_nil] at kOff)) | (intro kU kH kTk kInv kFr kNews; (have kAll := G.notyet_all kInv); (try (exfalso; omega))))); (all_goals (have kMark := kstMark; (try dsimp only [kstB] at kFr); (try dsimp only at kNews); (try simp only [List.nil_append, List.cons_append, List.append_nil] at kNews))); (all_goals (try k_fold))))
  k_with "pyIter ref" => (k_of "_law_k" => (k_state (fun pre line => line.length ≤ pre.length ∧ line.length ≤ 63 ∧ G.IsW line) "_law_line"))
  k_with "pyIter str" => (k_of "_law_sign" => (k_here; (rename Fr _ _ _ _ => lF'); (rename News _ _ _ _ => lN'); (with_unfolding_all refine' G.text_search (fun pre => G.AllW pre) [] (by rfl) lF' lN' ?kp ?_ ?_); (case kp => exact G.allW0); (all_goals (try clear lF' lN')); (all_goals (first | (intro kPre kPost kN kT kU kH kTk kOwn kEq kOff kInv kFr kNews; (try dsimp only at kOff); (try simp only [List.map_cons, List.map_nil] at kOff)) | (intro kU kH kTk kInv kFr kNews; (try (exfalso; exact G.odd_clash kInv (by assumption)))))); (all_goals (have kMark := kstMark; (try dsimp only [kstB] at kFr); (try dsimp only at kNews); (try dsimp only at kInv); (try simp only [List.nil_append, List.cons_append, List.append_nil] at kNews))); (all_goals (try k_fold))))
  k_with "pyIter str" => (k_of "_law_sign" => (k_state (fun pre p w h => 0 ≤ h ∧ h ≤ 36 ∧ G.LD pre p w h) "_law_plain" "_law_weighed" "_law_heavy"))
  w_top off
  unfold G.Rest8
  k_fill
  intro w s₀ s₁ mg mb Gd fa o ho hg KX X V GL T B TE TW a1 o1 M c K0 m z t s Q E F' hm hp hret
  have F := G.fr_line F' hm
  clear F' hm
  have N := G.news_nil (h₀ := T.heap) (h := s.heap) (L := s₁.heap.objs.size)
  obtain ⟨hw0, hl0⟩ := hp
  unfold G.scope8
  dsimp only [G.bodyOf, List.drop]
  k_steps
  all_goals (try k_data)
  all_goals (first | exact hret _ _ _ (by assumption) | w_report)
local macro_rules | `(tactic| walk_at "execs cons") => `(tactic| (k_here; (with_reducible show wpAny _ _ (execs (Stmt.Assign [Expr.Name (PySem.Str.ofString "_law_found") _] _ _ :: _) _) _ _ _); (with_reducible rename Fr _ _ _ _ => F'); (k_dflt (refine' G.Rest8.use restW ?T ?F ?hm ?hp ?g1 ?g2 ?g3 ?g4 ?g5 ?g6 ?g7 ?g8 ?g9 ?g10 ?g11 ?g12 ?_; (case T => assumption); (case F => exact F'); (case hm => exact if_pos rfl); (case hp => exact ⟨by assumption, by omega⟩); (case g1 => assumption); (case g2 => assumption); (case g3 => assumption); (case g4 => assumption); (case g5 => assumption); (case g6 => assumption); (case g7 => assumption); (case g8 => assumption); (case g9 => assumption); (case g10 => assumption); (case g11 => assumption); (case g12 => assumption))); intro h9 tk9 m9 F9; (try dsimp only)))
local macro_rules | `(tactic| walk_at "execs cons") => `(tactic| (k_here; (with_reducible show wpAny _ _ (execs (Stmt.Assign [Expr.Name (PySem.Str.ofString "_law_found") _] _ _ :: _) _) _ _ _); (with_reducible rename Fr _ _ _ _ => F'); (k_dflt (refine' G.Rest8.use restO ?T ?F ?hm ?hp ?g1 ?g2 ?g3 ?g4 ?g5 ?g6 ?g7 ?g8 ?g9 ?g10 ?g11 ?g12 ?_; (case T => assumption); (case F => exact F'); (case hm => exact if_pos rfl); (case hp => exact ⟨by assumption, by first | omega | (have kL9 := G.lens2; omega)⟩); (case g1 => assumption); (case g2 => assumption); (case g3 => assumption); (case g4 => assumption); (case g5 => assumption); (case g6 => assumption); (case g7 => assumption); (case g8 => assumption); (case g9 => assumption); (case g10 => assumption); (case g11 => assumption); (case g12 => assumption))); intro h9 tk9 m9 F9; (try dsimp only)))
set_option rowWalk.seconds 1700 in
set_option maxRecDepth 100000 in
set_option maxHeartbeats 8000000 in
theorem PySem.Challenge.cw_guardline_k08_whole_mended_or_not_holds : PySem.Challenge.rw_guardline_k08_whole_mended_or_not.Holds := by
  k_with_none
  k_with "state" => (first | exact G.wordL_start | exact G.wordL_turn (by assumption) (by assumption) (by assumption) (by omega) (by omega) | exact G.ldS0 | exact G.ldS1 (by assumption) (by assumption) | exact G.ldS2 (by assumption) (by assumption) (by assumption) (by assumption) | exact G.miss0 _ | exact G.miss1 (by assumption) (by first | assumption | omega) | exact G.allW0 | exact G.allW1 (by assumption) (by first | assumption | exact G.sgl_turn' (by assumption) (by assumption) | (simp_all; done)) | exact G.notyetO1 (by assumption) (by assumption) (by omega) | trivial)
  k_with "tree" => (first | exact G.isWb_list _ | exact G.isWb_list' _ | exact G.signS_out (by assumption) | exact G.hitF (by assumption) (by omega) (by omega) | exact G.noneF (by assumption))
  k_with "exec For Name Call cons nil" => (k_of "_law_spot" => (k_here; (rename Fr _ _ _ _ => lF'); (with_unfolding_all refine' For_invVF lF' ?k1 ?k2 ?_; (case k1 => exact rfl); (case k2 => exact rfl); k_whole)))
  k_with "pyIter ref" => (k_of "_law_spot" => (k_here; (rename Fr _ _ _ _ => lF'); (rename News _ _ _ _ => lN'); (rename IsRange _ _ _ _ _ _ _ _ => rgX); (rename G.MwK _ => mwX); (with_unfolding_all refine' G.range_search (fun pre => G.NotYetOf mwX pre) [PySem.Str.ofString "_law_other"] (by rfl) rgX (by exact small_one (by omega) (by omega) (by omega) (by omega)) (by exact rangeSize_nat _ _) lF' lN' G.notyetO0 ?_ ?_); (all_goals (try clear lF' lN')); (all_goals (first | (intro kPre kN kT kU kH kTk kOwn kEq kLt kOff kInv kFr kNews; (try dsimp only at kOff); (try simp only [List.map_cons, List.map_nil] at kOff)) | (intro kU kH kTk kInv kFr kNews; (have kAll := G.notyet_all kInv); (try (exfalso; omega))))); (all_goals (have kMark := kstMark; (try dsimp only [kstB] at kFr); (try dsimp only at kNews); (try simp only [List.nil_append, List.cons_append, List.append_nil] at kNews))); (all_goals (try k_fold))))
  k_with "pyIter ref" => (k_of "_law_k" => (k_state (fun pre line => line.length ≤ pre.length ∧ line.length ≤ 63 ∧ G.IsW line) "_law_line"))
  k_with "pyIter str" => (k_of "_law_sign" => (k_here; (rename Fr _ _ _ _ => lF'); (rename News _ _ _ _ => lN'); (with_unfolding_all refine' G.text_search (fun pre => G.AllW pre) [] (by rfl) lF' lN' ?kp ?_ ?_); (case kp => exact G.allW0); (all_goals (try clear lF' lN')); (all_goals (first | (intro kPre kPost kN kT kU kH kTk kOwn kEq kOff kInv kFr kNews; (try dsimp only at kOff); (try simp only [List.map_cons, List.map_nil] at kOff)) | (intro kU kH kTk kInv kFr kNews; (try (exfalso; exact G.odd_clash kInv (by assumption)))))); (all_goals (have kMark := kstMark; (try dsimp only [kstB] at kFr); (try dsimp only at kNews); (try dsimp only at kInv); (try simp only [List.nil_append, List.cons_append, List.append_nil] at kNews))); (all_goals (try k_fold))))
  k_with "pyIter str" => (k_of "_law_sign" => (k_state (fun pre p w h => 0 ≤ h ∧ h ≤ 36 ∧ G.LD pre p w h) "_law_plain" "_law_weighed" "_law_heavy"))
  exact hd08 (by k_go)
end
#print axioms PySem.Challenge.cw_guardline_k08_whole_mended_or_not_holds
