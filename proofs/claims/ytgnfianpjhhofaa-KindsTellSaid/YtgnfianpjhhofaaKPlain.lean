/-
  Layer 6 (kinds): what names of elements mean, in plain functions over the document's lists.
-/
import Derived.Test.YtgnfianpjhhofaaWIn
namespace Go.Proofs.Ytgnfianpjhhofaa.K
open Go.RowKit Go.Proofs.Ytgnfianpjhhofaa.W

def specialHtmlB : ByteArray := ⟨((([97, 100, 100, 114, 101, 115, 115, 32, 97, 112, 112, 108, 101, 116, 32, 97, 114, 101, 97, 32, 97, 114, 116, 105, 99, 108, 101, 32, 97, 115, 105, 100, 101, 32, 98, 97, 115, 101, 32, 98, 97, 115, 101, 102, 111, 110, 116, 32, 98, 103, 115, 111, 117, 110, 100, 32, 98, 108, 111, 99, 107, 113, 117].append [111, 116, 101, 32, 98, 111, 100, 121, 32, 98, 114, 32, 98, 117, 116, 116, 111, 110, 32, 99, 97, 112, 116, 105, 111, 110, 32, 99, 101, 110, 116, 101, 114, 32, 99, 111, 108, 32, 99, 111, 108, 103, 114, 111, 117, 112, 32, 100, 100, 32, 100, 101, 116, 97, 105, 108, 115, 32, 100, 105, 114, 32, 100]).append ([105, 118, 32, 100, 108, 32, 100, 116, 32, 101, 109, 98, 101, 100, 32, 102, 105, 101, 108, 100, 115, 101, 116, 32, 102, 105, 103, 99, 97, 112, 116, 105, 111, 110, 32, 102, 105, 103, 117, 114, 101, 32, 102, 111, 111, 116, 101, 114, 32, 102, 111, 114, 109, 32, 102, 114, 97, 109, 101, 32, 102, 114, 97].append [109, 101, 115, 101, 116, 32, 104, 49, 32, 104, 50, 32, 104, 51, 32, 104, 52, 32, 104, 53, 32, 104, 54, 32, 104, 101, 97, 100, 32, 104, 101, 97, 100, 101, 114, 32, 104, 103, 114, 111, 117, 112, 32, 104, 114, 32, 104, 116, 109, 108, 32, 105, 102, 114, 97, 109, 101, 32, 105, 109, 103, 32, 105])).append (([110, 112, 117, 116, 32, 107, 101, 121, 103, 101, 110, 32, 108, 105, 32, 108, 105, 110, 107, 32, 108, 105, 115, 116, 105, 110, 103, 32, 109, 97, 105, 110, 32, 109, 97, 114, 113, 117, 101, 101, 32, 109, 101, 110, 117, 32, 109, 101, 116, 97, 32, 110, 97, 118, 32, 110, 111, 101, 109, 98, 101, 100, 32].append [110, 111, 102, 114, 97, 109, 101, 115, 32, 110, 111, 115, 99, 114, 105, 112, 116, 32, 111, 98, 106, 101, 99, 116, 32, 111, 108, 32, 111, 112, 116, 103, 114, 111, 117, 112, 32, 111, 112, 116, 105, 111, 110, 32, 112, 32, 112, 97, 114, 97, 109, 32, 112, 108, 97, 105, 110, 116, 101, 120, 116, 32, 112]).append ([114, 101, 32, 115, 99, 114, 105, 112, 116, 32, 115, 101, 97, 114, 99, 104, 32, 115, 101, 99, 116, 105, 111, 110, 32, 115, 101, 108, 101, 99, 116, 32, 115, 111, 117, 114, 99, 101, 32, 115, 116, 121, 108, 101, 32, 115, 117, 109, 109, 97, 114, 121, 32, 116, 97, 98, 108, 101, 32, 116, 98, 111, 100].append [121, 32, 116, 100, 32, 116, 101, 109, 112, 108, 97, 116, 101, 32, 116, 101, 120, 116, 97, 114, 101, 97, 32, 116, 102, 111, 111, 116, 32, 116, 104, 32, 116, 104, 101, 97, 100, 32, 116, 105, 116, 108, 101, 32, 116, 114, 32, 116, 114, 97, 99, 107, 32, 117, 108, 32, 119, 98, 114, 32, 120, 109, 112]))).toArray⟩
theorem sz_specialHtml : specialHtmlB.size ≤ 1000000 := by decide +kernel
def specialMathB : ByteArray := ⟨#[97, 110, 110, 111, 116, 97, 116, 105, 111, 110, 45, 120, 109, 108, 32, 109, 105, 32, 109, 110, 32, 109, 111, 32, 109, 115, 32, 109, 116, 101, 120, 116]⟩
theorem sz_specialMath : specialMathB.size ≤ 1000000 := by decide +kernel
def specialSvgB : ByteArray := ⟨#[100, 101, 115, 99, 32, 102, 111, 114, 101, 105, 103, 110, 79, 98, 106, 101, 99, 116, 32, 116, 105, 116, 108, 101]⟩
theorem sz_specialSvg : specialSvgB.size ≤ 1000000 := by decide +kernel
def formattingB : ByteArray := ⟨#[97, 32, 98, 32, 98, 105, 103, 32, 99, 111, 100, 101, 32, 101, 109, 32, 102, 111, 110, 116, 32, 105, 32, 110, 111, 98, 114, 32, 115, 32, 115, 109, 97, 108, 108, 32, 115, 116, 114, 105, 107, 101, 32, 115, 116, 114, 111, 110, 103, 32, 116, 116, 32, 117]⟩
theorem sz_formatting : formattingB.size ≤ 1000000 := by decide +kernel
def voidB : ByteArray := ⟨([97, 114, 101, 97, 32, 98, 97, 115, 101, 32, 98, 97, 115, 101, 102, 111, 110, 116, 32, 98, 103, 115, 111, 117, 110, 100, 32, 98, 114, 32, 99, 111, 108, 32, 101, 109, 98, 101, 100, 32, 102, 114, 97, 109, 101, 32, 104, 114, 32].append [105, 109, 103, 32, 105, 110, 112, 117, 116, 32, 107, 101, 121, 103, 101, 110, 32, 108, 105, 110, 107, 32, 109, 101, 116, 97, 32, 112, 97, 114, 97, 109, 32, 115, 111, 117, 114, 99, 101, 32, 116, 114, 97, 99, 107, 32, 119, 98, 114]).toArray⟩
theorem sz_void : voidB.size ≤ 1000000 := by decide +kernel
def headingB : ByteArray := ⟨#[104, 49, 32, 104, 50, 32, 104, 51, 32, 104, 52, 32, 104, 53, 32, 104, 54]⟩
theorem sz_heading : headingB.size ≤ 1000000 := by decide +kernel
def impliedB : ByteArray := ⟨#[100, 100, 32, 100, 116, 32, 108, 105, 32, 111, 112, 116, 103, 114, 111, 117, 112, 32, 111, 112, 116, 105, 111, 110, 32, 112, 32, 114, 98, 32, 114, 112, 32, 114, 116, 32, 114, 116, 99]⟩
theorem sz_implied : impliedB.size ≤ 1000000 := by decide +kernel
def markerB : ByteArray := ⟨#[97, 112, 112, 108, 101, 116, 32, 99, 97, 112, 116, 105, 111, 110, 32, 109, 97, 114, 113, 117, 101, 101, 32, 111, 98, 106, 101, 99, 116, 32, 116, 100, 32, 116, 104]⟩
theorem sz_marker : markerB.size ≤ 1000000 := by decide +kernel
def blockB : ByteArray := ⟨(([97, 100, 100, 114, 101, 115, 115, 32, 97, 114, 116, 105, 99, 108, 101, 32, 97, 115, 105, 100, 101, 32, 98, 108, 111, 99, 107, 113, 117, 111, 116, 101, 32, 99, 101, 110, 116, 101, 114, 32, 100, 101].append [116, 97, 105, 108, 115, 32, 100, 105, 97, 108, 111, 103, 32, 100, 105, 114, 32, 100, 105, 118, 32, 100, 108, 32, 102, 105, 101, 108, 100, 115, 101, 116, 32, 102, 105, 103, 99, 97, 112, 116, 105, 111, 110]).append ([32, 102, 105, 103, 117, 114, 101, 32, 102, 111, 111, 116, 101, 114, 32, 104, 101, 97, 100, 101, 114, 32, 104, 103, 114, 111, 117, 112, 32, 108, 105, 115, 116, 105, 110, 103, 32, 109, 97, 105, 110, 32].append [109, 101, 110, 117, 32, 110, 97, 118, 32, 111, 108, 32, 112, 32, 112, 114, 101, 32, 115, 101, 97, 114, 99, 104, 32, 115, 101, 99, 116, 105, 111, 110, 32, 115, 117, 109, 109, 97, 114, 121, 32, 117, 108])).toArray⟩
theorem sz_block : blockB.size ≤ 1000000 := by decide +kernel
def breakoutB : ByteArray := ⟨(([98, 32, 98, 105, 103, 32, 98, 108, 111, 99, 107, 113, 117, 111, 116, 101, 32, 98, 111, 100, 121, 32, 98, 114, 32, 99, 101, 110, 116, 101, 114, 32, 99, 111, 100, 101, 32, 100, 100, 32, 100, 105, 118, 32, 100].append [108, 32, 100, 116, 32, 101, 109, 32, 101, 109, 98, 101, 100, 32, 104, 49, 32, 104, 50, 32, 104, 51, 32, 104, 52, 32, 104, 53, 32, 104, 54, 32, 104, 101, 97, 100, 32, 104, 114, 32, 105, 32, 105, 109, 103, 32]).append ([108, 105, 32, 108, 105, 115, 116, 105, 110, 103, 32, 109, 101, 110, 117, 32, 109, 101, 116, 97, 32, 110, 111, 98, 114, 32, 111, 108, 32, 112, 32, 112, 114, 101, 32, 114, 117, 98, 121, 32, 115, 32, 115, 109, 97, 108].append [108, 32, 115, 112, 97, 110, 32, 115, 116, 114, 111, 110, 103, 32, 115, 116, 114, 105, 107, 101, 32, 115, 117, 98, 32, 115, 117, 112, 32, 116, 97, 98, 108, 101, 32, 116, 116, 32, 117, 32, 117, 108, 32, 118, 97, 114])).toArray⟩
theorem sz_breakout : breakoutB.size ≤ 1000000 := by decide +kernel
def stopsDefaultB : ByteArray := ⟨#[97, 112, 112, 108, 101, 116, 32, 99, 97, 112, 116, 105, 111, 110, 32, 104, 116, 109, 108, 32, 109, 97, 114, 113, 117, 101, 101, 32, 111, 98, 106, 101, 99, 116, 32, 116, 97, 98, 108, 101, 32, 116, 100, 32, 116, 101, 109, 112, 108, 97, 116, 101, 32, 116, 104]⟩
theorem sz_stopsDefault : stopsDefaultB.size ≤ 1000000 := by decide +kernel
def stopsItemB : ByteArray := ⟨#[111, 108, 32, 117, 108]⟩
theorem sz_stopsItem : stopsItemB.size ≤ 1000000 := by decide +kernel
def stopsButtonB : ByteArray := ⟨#[98, 117, 116, 116, 111, 110]⟩
theorem sz_stopsButton : stopsButtonB.size ≤ 1000000 := by decide +kernel
def stopsTableB : ByteArray := ⟨#[104, 116, 109, 108, 32, 116, 97, 98, 108, 101, 32, 116, 101, 109, 112, 108, 97, 116, 101]⟩
theorem sz_stopsTable : stopsTableB.size ≤ 1000000 := by decide +kernel
def passesSelectB : ByteArray := ⟨#[111, 112, 116, 103, 114, 111, 117, 112, 32, 111, 112, 116, 105, 111, 110]⟩
theorem sz_passesSelect : passesSelectB.size ≤ 1000000 := by decide +kernel
def rcdataB : ByteArray := ⟨#[116, 101, 120, 116, 97, 114, 101, 97, 32, 116, 105, 116, 108, 101]⟩
theorem sz_rcdata : rcdataB.size ≤ 1000000 := by decide +kernel
def rawtextB : ByteArray := ⟨#[105, 102, 114, 97, 109, 101, 32, 110, 111, 101, 109, 98, 101, 100, 32, 110, 111, 102, 114, 97, 109, 101, 115, 32, 115, 116, 121, 108, 101, 32, 120, 109, 112]⟩
theorem sz_rawtext : rawtextB.size ≤ 1000000 := by decide +kernel

def inL (list name : ByteArray) : Bool := hasW (spl list) name
def isOf (space : Int) (name list : ByteArray) : Bool := decide (space = 0) && inL list name
def forK (space : Int) (name : ByteArray) : Bool := (decide (space = 2) && inL specialMathB name) || (decide (space = 1) && inL specialSvgB name)
def specialK (space : Int) (name : ByteArray) : Bool := forK space name || isOf space name specialHtmlB
def fewK (space : Int) (name : ByteArray) : Bool := forK space name || isOf space name stopsDefaultB
def stopsK (scope space : Int) (name : ByteArray) : Bool :=
  if scope = 0 then fewK space name else if scope = 1 then fewK space name || isOf space name stopsItemB else if scope = 2 then fewK space name || isOf space name stopsButtonB
  else if scope = 3 then isOf space name stopsTableB else if scope = 4 then !isOf space name passesSelectB else true
def lexedK (name : ByteArray) : Int :=
  if inL rcdataB name = true then 1 else if inL rawtextB name = true then 2 else if name = ⟨#[115, 99, 114, 105, 112, 116]⟩ then 3 else if name = ⟨#[112, 108, 97, 105, 110, 116, 101, 120, 116]⟩ then 4 else 0
theorem forK_html (name : ByteArray) : forK 0 name = false := rfl
theorem isOf_html (name list : ByteArray) : isOf 0 name list = inL list name := rfl
theorem isOf_other {space : Int} (h : space ≠ 0) (name list : ByteArray) : isOf space name list = false := by unfold isOf; rw [decide_eq_false h]; rfl
theorem specialK_html (name : ByteArray) : specialK 0 name = inL specialHtmlB name := rfl
theorem specialK_svg (name : ByteArray) : specialK 1 name = inL specialSvgB name := by show ((false || (true && inL specialSvgB name)) || (false && _)) = _; simp
theorem specialK_math (name : ByteArray) : specialK 2 name = inL specialMathB name := by show ((true && inL specialMathB name || (false && _)) || (false && _)) = _; simp
theorem forK_other {space : Int} (h1 : space ≠ 1) (h2 : space ≠ 2) (name : ByteArray) : forK space name = false := by unfold forK; rw [decide_eq_false h1, decide_eq_false h2]; rfl
theorem specialK_other {space : Int} (h0 : space ≠ 0) (h1 : space ≠ 1) (h2 : space ≠ 2) (name : ByteArray) : specialK space name = false := by unfold specialK; rw [forK_other h1 h2, isOf_other h0]; rfl
theorem fewK_html (name : ByteArray) : fewK 0 name = inL stopsDefaultB name := rfl
theorem fewK_other {space : Int} (h : space ≠ 0) (name : ByteArray) : fewK space name = specialK space name := by unfold fewK specialK; rw [isOf_other h, isOf_other h]
/-- Lists within lists. -/
theorem inL_sub {a b : ByteArray} (h : ∀ x ∈ splG [] a.data.toList, x ∈ splG [] b.data.toList) {name : ByteArray} (hn : inL a name = true) : inL b name = true := by
  unfold inL at *
  rw [hasW_iff] at *
  unfold spl at *
  obtain ⟨x, hx, rfl⟩ := List.mem_map.1 hn
  exact List.mem_map.2 ⟨x, h x hx, rfl⟩
theorem heading_special {name : ByteArray} : inL headingB name = true → inL specialHtmlB name = true := inL_sub (by decide +kernel)
theorem void_special {name : ByteArray} : inL voidB name = true → inL specialHtmlB name = true := inL_sub (by decide +kernel)
theorem table_default {name : ByteArray} : inL stopsTableB name = true → inL stopsDefaultB name = true := inL_sub (by decide +kernel)
theorem headingVoid_special {space : Int} {name : ByteArray} (h : (isOf space name headingB || isOf space name voidB) = true) : specialK space name = true := by
  by_cases h0 : space = 0
  · subst h0
    rw [isOf_html, isOf_html, Bool.or_eq_true] at h
    rw [specialK_html]
    exact h.elim heading_special void_special
  · rw [isOf_other h0, isOf_other h0] at h; cases h
theorem stops_sub {space : Int} {name : ByteArray} (h : isOf space name stopsTableB = true) : fewK space name = true := by
  by_cases h0 : space = 0
  · subst h0; rw [isOf_html] at h; rw [fewK_html]; exact table_default h
  · rw [isOf_other h0] at h; cases h
end Go.Proofs.Ytgnfianpjhhofaa.K
