package copies_test

import (
	"reflect"
	"testing"

	"cooper/api"
	"cooper/copies"
)

// spec is a wish of which no list is empty.
func spec() api.Spec {
	return api.Spec{Name: "a", Spans: []api.Span{{Lo: "1"}}, Settings: []api.Setting{{Name: "x", Value: "on"}}}
}

func whole() api.Recipe {
	return api.Recipe{
		Packages: []api.Package{{
			Name: "a", Line: 1,
			Releases:  []api.Release{{Version: "1", Old: true}},
			Variants:  []api.Variant{{Name: "x", Values: []string{"on"}}},
			Provides:  []string{"v"},
			Depends:   []api.Depend{{On: spec(), When: spec(), Line: 2}},
			Conflicts: []api.Conflict{{When: spec(), With: spec(), Line: 3}},
			Files:     []string{"f"},
		}},
		Prefers: []api.Prefer{{Virtual: "v", Names: []string{"a"}, Line: 4}},
	}
}

// spoil sets all that a value leads to to its zero value.
func spoil(v reflect.Value) {
	switch v.Kind() {
	case reflect.Struct:
		for i := range v.NumField() {
			spoil(v.Field(i))
		}
	case reflect.Slice:
		for i := range v.Len() {
			spoil(v.Index(i))
			v.Index(i).SetZero()
		}
	}
}

func TestCopies(t *testing.T) {
	x := whole()
	y := copies.Recipe(x)
	if !reflect.DeepEqual(x, y) {
		t.Errorf("%v\n%v", x, y)
	}
	spoil(reflect.ValueOf(&y).Elem())
	if !reflect.DeepEqual(x, whole()) {
		t.Error("a recipe's copy shares its memory", x)
	}
	q := api.Request{Roots: []api.Root{{Spec: spec(), Line: 1}}}
	r := copies.Request(q)
	if !reflect.DeepEqual(q, r) {
		t.Errorf("%v\n%v", q, r)
	}
	spoil(reflect.ValueOf(&r).Elem())
	if !reflect.DeepEqual(q, api.Request{Roots: []api.Root{{Spec: spec(), Line: 1}}}) {
		t.Error("a request's copy shares its memory", q)
	}
}
